/- TreePlaces: a leaf's proof at another place leads elsewhere, or there is a break with that place's own way. For all leaves and places. -/
import Derived.Test.YtpfhhbfjemmkaaaDoorLaw7
import Derived.Test.YtpfhhbfjemmkaaaDoorPTAll
import Derived.Test.YtpfhhbfjemmkaaaDoorTree7
import Derived.Test.YtpfhhbfjemmkaaaDoorRTMay
namespace Go.Proofs.YtpfhhbfjemmkaaaDoor.treePlaces
open Go.ChangeShapes Go.WideShapes Go.ChangeAt Go.RowKit

set_option maxRecDepth 100000 in
set_option maxHeartbeats 16000000 in
theorem walk (A : Option Addr) (m c : Nat) (l : List (List UInt8)) (i0 k0 : Int) (w : World) (hl : l.length = m) (hc : m ≤ c) (hz : ∀ r ∈ l, r.length = 32) (hr : RdH w w.heap.size A l) (hi0 : -9223372036854775808 ≤ i0) (hi1 : i0 ≤ 9223372036854775807) (hk0 : -9223372036854775808 ≤ k0) (hk1 : k0 ≤ 9223372036854775807) (htab : Pow10 w.heap.size w) :
    Calls Tryd.prog 4 #[.slice A m c, .int .i64 i0, .int .i64 k0] w fun e w' => e = .returned (.bool true) ∧ Below w.heap.size w w' := by
  obtain ⟨z, ks, hcut, hkz, hz16, hzc, hkl, hkr⟩ := cut7 A m c 16 16 rfl l w hl hc hz hr
  have HCUT := Lib.hid hcut
  have HT := Lib.hid htab
  have HKZ := Lib.hid hkz
  have HKL := Lib.hid hkl
  have HKR := Lib.hid hkr
  have HBW := Lib.hid (Below.refl w.heap.size w)
  clear hcut hl hc hz hr htab hkz hkl hkr
  by_cases hz2 : (z : Int) < 2
  · go_enter Tryd.func4, Tryd.ntmps4
    go_wp2_with fail
    with_reducible refine (HCUT.out _).mono ?_
    rintro e wx ⟨rfl, rfl⟩
    go_wp2_with fail
    with_reducible refine (wakes7_any w (tab_in HT.out HBW.out)).mono ?_
    rintro e wz ⟨rfl, hb⟩
    replace HBW := Lib.hid (HBW.out.trans (hb.mono HBW.out.size))
    clear hb
    go_wp2_with fail
    go_ret
    exact ⟨by kernel_rfl, HBW.out⟩
  · have HW1 := Lib.hid (fun W => within_any i0 (z : Int) W hi0 hi1 (by omega))
    have HW2 := Lib.hid (fun W => within_any k0 (z : Int) W hk0 hk1 (by omega))
    obtain ⟨q1, q2⟩ := withinI_range i0 (z : Int) (by omega)
    obtain ⟨q3, q4⟩ := withinI_range k0 (z : Int) (by omega)
    obtain ⟨I, hI⟩ : ∃ I : Nat, withinI i0 (z : Int) = (I : Int) := ⟨(withinI i0 (z : Int)).toNat, by omega⟩
    obtain ⟨J, hJ⟩ : ∃ J : Nat, withinI k0 (z : Int) = (J : Int) := ⟨(withinI k0 (z : Int)).toNat, by omega⟩
    rw [hI] at HW1
    rw [hJ] at HW2
    have hIz : I < z := by omega
    have hJz : J < z := by omega
    have hIi : (I : Int) < (z : Int) := by omega
    have hJi : (J : Int) < (z : Int) := by omega
    have hI0 : (0 : Int) ≤ (I : Int) := by omega
    have hJ0 : (0 : Int) ≤ (J : Int) := by omega
    clear q1 q2 q3 q4 hI hJ hi0 hi1 hk0 hk1
    obtain ⟨V, hV⟩ : ∃ X, u8A (rootV ks) = X := ⟨_, rfl⟩
    have HEV := Lib.hid hV
    obtain ⟨q, hq⟩ : ∃ X, tree.high z = X := ⟨_, rfl⟩
    have HEq := Lib.hid hq
    have hvl : (rootV ks).length = 32 := rootV_len HKL.out
    have HLV := Lib.hid hvl
    have HZV := Lib.hid (show V.size = 32 by rw [← hV, u8A_size]; exact hvl)
    have HIV := Lib.hid (show (Tryd.prog.info? 25).map (·.size) = some V.size by rw [HZV.out]; kernel_rfl)
    have HOV := Lib.hid (show V.all (·.oneCell') = true by rw [← hV]; exact u8A_one _)
    obtain ⟨ps1, hps1⟩ : ∃ p, proofV ks I = p := ⟨_, rfl⟩
    obtain ⟨ps2, hps2⟩ : ∃ p, proofV ks J = p := ⟨_, rfl⟩
    have HQ1 := Lib.hid (show ps1.length = q by rw [← hps1, proofV_len, HKZ.out, hq])
    have HQ2 := Lib.hid (show ps2.length = q by rw [← hps2, proofV_len, HKZ.out, hq])
    have hq4 : q ≤ 4 := by rw [← hq]; exact tree.high_least 4 z (by omega)
    have HRT := Lib.hid (show Calls Tryd.prog 14 #[.slice A z c] w fun e w' => e = .returned (.agg V) ∧ Below w.heap.size w w' by
      rw [← hV]
      exact proot_any A z c ks w HKZ.out (by omega) HKL.out HKR.out HT.out)
    have HP1 := Lib.hid (fun W (h : Below w.heap.size w W) => (show Calls Tryd.prog 15 #[.int .i64 (I : Int), .slice A z c] W fun e w' => ∃ v, e = .returned (.tuple #[v, .int .i64 0]) ∧ OwnH w' W.heap.size v ps1 ∧ Below W.heap.size W w' from by
      rw [← hps1]
      exact pproof_yes A z c I ks W HKZ.out (by omega) hIz HKL.out (HKR.out.on h) (tab_in HT.out h)))
    have HP2 := Lib.hid (fun W (h : Below w.heap.size w W) => (show Calls Tryd.prog 15 #[.int .i64 (J : Int), .slice A z c] W fun e w' => ∃ v, e = .returned (.tuple #[v, .int .i64 0]) ∧ OwnH w' W.heap.size v ps2 ∧ Below W.heap.size W w' from by
      rw [← hps2]
      exact pproof_yes A z c J ks W HKZ.out (by omega) hJz HKL.out (HKR.out.on h) (tab_in HT.out h)))
    have hv0 := HKR.out.hv (c := c) HKZ.out hzc HKL.out
    obtain ⟨gb, off, hA, hgb, hxr, hxl⟩ := hv0.at_ (i := I) hIz
    obtain ⟨_, _, e1, _, hyr, hyl⟩ := hv0.at_ (i := J) hJz
    subst hA
    injection e1 with e1
    injection e1 with e1 e2
    subst e1 e2
    have HOWN := Lib.hid (show climbV (z : Int) (J : Int) (ks.getD J []) ps2 = rootV ks by
      have h := own_climb (l := ks) (i := J) (by rw [HKZ.out]; exact hJz) (by rw [HKZ.out]; omega)
      rw [hps2, HKZ.out] at h
      exact h)
    have KK1 : ∀ p : List (List UInt8), p.length = q → climbOK (z : Int) (J : Int) p.length := fun p hp => ⟨by omega, by omega, by omega, by rw [hp, ← hq]; rfl⟩
    have k1 := KK1 ps1 HQ1.out
    have k2 := KK1 ps2 HQ2.out
    have HPI := Lib.hid (fun (h : I = J) => (show ps1 = ps2 by rw [← hps1, ← hps2, h]))
    obtain ⟨x, hx⟩ : ∃ x, ks.getD I [] = x := ⟨_, rfl⟩
    obtain ⟨y, hy⟩ : ∃ x, ks.getD J [] = x := ⟨_, rfl⟩
    have HXI := Lib.hid (fun (h : I = J) => (show x = y by rw [← hx, ← hy, h]))
    rw [hx] at hxr hxl
    rw [hy] at hyr hyl HOWN
    have HRG0 := Lib.hid (fun W (h : Below w.heap.size w W) => (⟨rangeAt_keep hxr fun j => h.cell (p := ⟨gb, _, none⟩) hgb, rangeAt_keep hyr fun j => h.cell (p := ⟨gb, _, none⟩) hgb⟩ : W.rangeAt gb (off + I * 32) (Lib.byteCells x) ∧ W.rangeAt gb (off + J * 32) (Lib.byteCells y)))
    have HLX := Lib.hid hxl
    have HLY := Lib.hid hyl
    obtain ⟨X, hX⟩ : ∃ X, u8A x = X := ⟨_, rfl⟩
    have HEX := Lib.hid hX
    obtain ⟨Y, hY⟩ : ∃ X, u8A y = X := ⟨_, rfl⟩
    have HEY := Lib.hid hY
    have HXY := Lib.hid (fun W => (show (Op.equalIn 10000 25 (.agg X) (.agg Y)).run Tryd.prog W = .ok (decide (x = y)) W by rw [← hX, ← hY, run_hash_eq W _ _ hxl hyl]))
    obtain ⟨D, hD⟩ : ∃ X, decide (climbV (z : Int) (J : Int) x ps1 = rootV ks) = X := ⟨_, rfl⟩
    have HED := Lib.hid hD
    have HCK0 := Lib.hid (fun W A1 c1 (h : Below w.heap.size w W) (hv : HV W (.slice A1 q c1) ps1) => (show Calls Tryd.prog 17 #[.agg V, .int .i64 (z : Int), .int .i64 (J : Int), .agg X, .slice A1 q c1] W fun e w' => e = .returned (.bool D) ∧ Below W.heap.size W w' from by
      have h2 := pcheck_any (rootV ks) (z : Int) (J : Int) x A1 q c1 ps1 W hvl HQ1.out (by omega) HLX.out hv.1 hv.rd (tab_in HT.out h)
      rw [show decide (climbOK (z : Int) (J : Int) ps1.length ∧ climbV (z : Int) (J : Int) x ps1 = rootV ks) = D by
        rw [← hD]
        exact decide_eq_decide.2 ⟨fun h => h.2, fun h => ⟨k1, h⟩⟩] at h2
      rw [← hV, ← hX]
      exact h2))
    obtain ⟨r, hr⟩ : ∃ r, brkV (z : Int) (J : Int) x y ps1 ps2 = r := ⟨_, rfl⟩
    have HIS := Lib.hid (show r.isSome = decide (brkOK (z : Int) (J : Int) x y ps1 ps2) by rw [← hr]; exact brkV_isSome _ _ _ _ _ _)
    have HU0 := Lib.hid (fun W A1 c1 A2 c2 (h : Below w.heap.size w W) (hv1 : HV W (.slice A1 q c1) ps1) (hv2 : HV W (.slice A2 q c2) ps2) => (show Calls Tryd.prog 21 #[.int .i64 (z : Int), .int .i64 (J : Int), .agg X, .agg Y, .slice A1 q c1, .slice A2 q c2] W (BrkSaid W r) from by
      rw [← hr, ← hX, ← hY]
      exact pbreak_any _ _ x y A1 A2 q q c1 c2 ps1 ps2 W HQ1.out HQ2.out (by omega) (by omega) HLX.out HLY.out hv1.1 hv2.1 hv1.rd hv2.rd (tab_in HT.out h)))
    obtain ⟨s1, hs1⟩ : ∃ s, (r.getD ([], [])).1 = s := ⟨_, rfl⟩
    obtain ⟨s2, hs2⟩ : ∃ s, (r.getD ([], [])).2 = s := ⟨_, rfl⟩
    obtain ⟨n1, hn1⟩ : ∃ n, s1.length = n := ⟨_, rfl⟩
    obtain ⟨n2, hn2⟩ : ∃ n, s2.length = n := ⟨_, rfl⟩
    obtain ⟨K, hk⟩ : ∃ k, r.isSome = k := ⟨_, rfl⟩
    have HS1 := Lib.hid hs1
    have HS2 := Lib.hid hs2
    have HN1 := Lib.hid hn1
    have HN2 := Lib.hid hn2
    have HK := Lib.hid hk
    have HKN := Lib.hid (fun (h : K = false) => (show n1 = 0 by
      rw [← hn1, ← hs1]
      cases r with
      | none => rfl
      | some x => rw [← hk] at h; cases h))
    have HKD := Lib.hid (show decide (brkOK (z : Int) (J : Int) x y ps1 ps2) = K by rw [← hk, HIS.out])
    have K3 := Lib.hid (fun (h : climbV (z : Int) (J : Int) x ps1 = rootV ks) => h.trans HOWN.out.symm)
    replace HOWN := Lib.hid (fun (h : I = J) => (show climbV (z : Int) (J : Int) x ps1 = rootV ks by rw [HXI.out h, HPI.out h]; exact HOWN.out))
    have hdn : (z : Int) < 2 ↔ False := ⟨fun h => hz2 h, fun h => h.elim⟩
    clear hX hY hV hq hps1 hps2 hx hy hxr hyr hxl hyl hgb hv0 KK1 hr hs1 hs2 hn1 hn2 hk HIS HXI HPI hdn hvl hD
    go_enter Tryd.func4, Tryd.ntmps4
    go_wp2_with fail
    with_reducible refine (HCUT.out _).mono ?_
    rintro e wx ⟨rfl, rfl⟩
    go_wp2_with fail
    with_reducible refine (HW1.out _).mono ?_
    rintro e wx ⟨rfl, rfl⟩
    go_wp2_with fail
    with_reducible refine (HW2.out _).mono ?_
    rintro e wx ⟨rfl, rfl⟩
    clear HCUT HW1 HW2
    go_wp2_with fail
    with_reducible refine (HRT.out).mono ?_
    rintro e w3 ⟨rfl, hb⟩
    replace HBW := Lib.hid hb
    clear hb HRT
    go_upto_region 6 with (with_reducible refine wpList_store_blk rfl 25 (.tmp 7) (.tmp 30) rfl w3.heap.size V rfl rfl 25 _ (Blk.new _ _ _) (by rw [HZV.out]; kernel_rfl) (by rw [HZV.out]; kernel_rfl) HOV.out ?_)
    generalize hww4 : World.setRow _ _ _ = w4
    have hal : Below w3.heap.size w3 w4 := by
      rw [← hww4]
      exact below_row ((Below.refl _ _).alloc (Nat.le_refl _) _) (by simp) (Nat.le_refl _) _
    have HB7 := Lib.hid (show Blk w4 w3.heap.size V 25 by
      rw [← hww4]
      exact (Blk.new _ _ _).row _)
    replace HBW := Lib.hid (HBW.out.trans (hal.mono HBW.out.size))
    clear hal hww4
    go_wp2_with fail
    with_reducible refine (HP1.out w4 HBW.out).mono ?_
    rintro e w5 ⟨v1, rfl, hown, hb⟩
    obtain ⟨A1, c1, rfl, _, _⟩ := hown.form HQ1.out
    have HV1 := Lib.hid hown.hv
    replace HB7 := Lib.hid (HB7.out.below hb HB7.out.lt)
    replace HBW := Lib.hid (HBW.out.trans (hb.mono HBW.out.size))
    clear hb hown HP1
    go_wp2_with fail
    with_reducible refine (HP2.out w5 HBW.out).mono ?_
    rintro e w7 ⟨v2, rfl, hown, hb⟩
    obtain ⟨A2, c2, rfl, _, _⟩ := hown.form HQ2.out
    have HV2 := Lib.hid hown.hv
    replace HV1 := Lib.hid (HV1.out.on hb)
    replace HB7 := Lib.hid (HB7.out.below hb HB7.out.lt)
    replace HBW := Lib.hid (HBW.out.trans (hb.mono HBW.out.size))
    clear hb hown HP2
    have HRG := Lib.hid (fun W (h : Below w7.heap.size w7 W) => HRG0.out W (HBW.out.trans (h.mono HBW.out.size)))
    have HB7L := Lib.hid (show Blk w7 w3.heap.size (u8A (rootV ks)) 25 by rw [HEV.out]; exact HB7.out)
    have HRV := Lib.hid (fun W (h : Below w7.heap.size w7 W) => range_of_blk (HB7L.out.below h HB7L.out.lt))
    have HCK := Lib.hid (fun W (h : Below w7.heap.size w7 W) => HCK0.out W A1 c1 (HBW.out.trans (h.mono HBW.out.size)) (HV1.out.on h))
    have HU := Lib.hid (fun W (h : Below w7.heap.size w7 W) => HU0.out W A1 c1 A2 c2 (HBW.out.trans (h.mono HBW.out.size)) (HV1.out.on h) (HV2.out.on h))
    clear HRG0 HCK0 HU0 HB7L
    go_wp2_with fail
    refine wp_region_loose 11 0 (fun i => false) (promises [.is (.agg V), .is (.slice (some ⟨gb, off, none⟩) z c), .is (.int .i64 (z : Int)), .is (.int .i64 (J : Int)), .is (.slice (some ⟨gb, off, none⟩) z c), .is (.int .i64 (I : Int)), .is (.pointer (some ⟨gb, off + I * 32, none⟩)), .is (.agg X), .is (.slice A1 q c1), .is (.bool D), .is (.bool (!D))]) (by kernel_rfl) rfl (by kernel_rfl) (fun i v w w' h hb => Spec.keep h hb) ⟨?_, ?_, ?_, ?_, ?_, ?_, ?_, ?_, ?_, ?_, ?_, trivial⟩ ?_
    · refine StepOKl.of ?_
      intro ac w hb hu hk
      refine ⟨wanted_none rfl, ?_⟩
      have e7 : ac.eval (.tmp 7) = .pointer (some ⟨w3.heap.size, 0, none⟩) := hu.is (t := 7) (by kernel_rfl)
      refine step_value (w' := w) (v := .agg V) (run_load_hash (.tmp 7) rfl w3.heap.size (0) e7 (rootV ks) HLV.out (HRV.out w hb) HEV.out) (Below.refl _ _) rfl
    · refine StepOKl.of ?_
      intro ac w hb hu hk
      refine ⟨wanted_none rfl, ?_⟩
      have e0 : ac.eval (.tmp 0) = .slice (some ⟨gb, off, none⟩) z c := hu.is (t := 0) (by kernel_rfl)
      exact step_value (BigFrame.run_move (.tmp 0) rfl w) (Below.refl _ _) e0
    · refine StepOKl.of ?_
      intro ac w hb hu hk
      refine ⟨wanted_none rfl, ?_⟩
      have e50 : ac.eval (.tmp 50) = (.slice (some ⟨gb, off, none⟩) z c) := (hk ⟨1, .data⟩ (by simp) rfl).is rfl rfl
      refine step_value (w' := w) (v := (.int .i64 (z : Int))) ?_ (Below.refl _ _) rfl
      generalize ac.eval = ρ at e50 ⊢
      go_simp
    · refine StepOKl.of ?_
      intro ac w hb hu hk
      refine ⟨wanted_none rfl, ?_⟩
      have e2 : ac.eval (.tmp 2) = .int .i64 (J : Int) := hu.is (t := 2) (by kernel_rfl)
      exact step_value (BigFrame.run_move (.tmp 2) rfl w) (Below.refl _ _) e2
    · refine StepOKl.of ?_
      intro ac w hb hu hk
      refine ⟨wanted_none rfl, ?_⟩
      have e0 : ac.eval (.tmp 0) = .slice (some ⟨gb, off, none⟩) z c := hu.is (t := 0) (by kernel_rfl)
      exact step_value (BigFrame.run_move (.tmp 0) rfl w) (Below.refl _ _) e0
    · refine StepOKl.of ?_
      intro ac w hb hu hk
      refine ⟨wanted_none rfl, ?_⟩
      have e1 : ac.eval (.tmp 1) = .int .i64 (I : Int) := hu.is (t := 1) (by kernel_rfl)
      exact step_value (BigFrame.run_move (.tmp 1) rfl w) (Below.refl _ _) e1
    · refine StepOKl.of ?_
      intro ac w hb hu hk
      refine ⟨wanted_none rfl, ?_⟩
      have e53 : ac.eval (.tmp 53) = (.slice (some ⟨gb, off, none⟩) z c) := (hk ⟨4, .data⟩ (by simp) rfl).is rfl rfl
      have e54 : ac.eval (.tmp 54) = (.int .i64 (I : Int)) := (hk ⟨5, .data⟩ (by simp) rfl).is rfl rfl
      refine step_value (w' := w) (v := (.pointer (some ⟨gb, off + I * 32, none⟩))) ?_ (Below.refl _ _) rfl
      generalize ac.eval = ρ at e53 e54 ⊢
      go_simp
    · refine StepOKl.of ?_
      intro ac w hb hu hk
      refine ⟨wanted_none rfl, ?_⟩
      have e55 : ac.eval (.tmp 55) = (.pointer (some ⟨gb, off + I * 32, none⟩)) := (hk ⟨6, .data⟩ (by simp) rfl).is rfl rfl
      refine step_value (w' := w) (v := .agg X) (run_load_hash (.tmp 55) rfl gb (off + I * 32) e55 x HLX.out ((HRG.out w hb).1) HEX.out) (Below.refl _ _) rfl
    · refine StepOKl.of ?_
      intro ac w hb hu hk
      refine ⟨wanted_none rfl, ?_⟩
      have e8 : ac.eval (.tmp 8) = .slice A1 q c1 := hu.is (t := 8) (by kernel_rfl)
      exact step_value (BigFrame.run_move (.tmp 8) rfl w) (Below.refl _ _) e8
    · refine StepOKl.of ?_
      intro ac w hb hu hk
      refine ⟨wanted_none rfl, ?_⟩
      have e49 : ac.eval (.tmp 49) = (.agg V) := (hk ⟨0, .data⟩ (by simp) rfl).is rfl rfl
      have e51 : ac.eval (.tmp 51) = (.int .i64 (z : Int)) := (hk ⟨2, .data⟩ (by simp) rfl).is rfl rfl
      have e52 : ac.eval (.tmp 52) = (.int .i64 (J : Int)) := (hk ⟨3, .data⟩ (by simp) rfl).is rfl rfl
      have e56 : ac.eval (.tmp 56) = (.agg X) := (hk ⟨7, .data⟩ (by simp) rfl).is rfl rfl
      have e57 : ac.eval (.tmp 57) = (.slice A1 q c1) := (hk ⟨8, .data⟩ (by simp) rfl).is rfl rfl
      have ef : ac.eval (.func 17) = .func (.func 17) #[] #[] := rfl
      refine step_enter (f := 17) (args := #[.agg V, .int .i64 (z : Int), .int .i64 (J : Int), .agg X, .slice A1 q c1]) ?_ ?_
      · generalize ac.eval = ρ at e49 e51 e52 e56 e57 ef ⊢
        go_simp
      · exact (HCK.out w hb).mono fun e w' ⟨he, hq⟩ => ⟨_, he, rfl, hq⟩
    · refine StepOKl.of ?_
      intro ac w hb hu hk
      refine ⟨wanted_none rfl, ?_⟩
      have e58 : ac.eval (.tmp 58) = (.bool D) := (hk ⟨9, .data⟩ (by simp) rfl).is rfl rfl
      exact step_value (run_not e58 rfl w) (Below.refl _ _) rfl
    · intro ac w' hb hu hk hap
      obtain ⟨_, h49, rfl⟩ := (hk 0 (by decide)).put rfl rfl
      obtain ⟨_, h50, rfl⟩ := (hk 1 (by decide)).put rfl rfl
      obtain ⟨_, h51, rfl⟩ := (hk 2 (by decide)).put rfl rfl
      obtain ⟨_, h52, rfl⟩ := (hk 3 (by decide)).put rfl rfl
      obtain ⟨_, h53, rfl⟩ := (hk 4 (by decide)).put rfl rfl
      obtain ⟨_, h54, rfl⟩ := (hk 5 (by decide)).put rfl rfl
      obtain ⟨_, h55, rfl⟩ := (hk 6 (by decide)).put rfl rfl
      obtain ⟨_, h56, rfl⟩ := (hk 7 (by decide)).put rfl rfl
      obtain ⟨_, h57, rfl⟩ := (hk 8 (by decide)).put rfl rfl
      obtain ⟨_, h58, rfl⟩ := (hk 9 (by decide)).put rfl rfl
      obtain ⟨_, h59, rfl⟩ := (hk 10 (by decide)).put rfl rfl
      clear hap
      have hF : AllPuts ac.tmps ((49, _) :: (50, _) :: (51, _) :: (52, _) :: (53, _) :: (54, _) :: (55, _) :: (56, _) :: (57, _) :: (58, _) :: (59, _) :: []) := ⟨h49, h50, h51, h52, h53, h54, h55, h56, h57, h58, h59, trivial⟩
      obtain rfl := frame_puts hu (by kernel_rfl) hF
      simp only [puts, Act.put, List.setIfInBounds_toArray, List.set_cons_zero, List.set_cons_succ, List.drop_succ_cons, List.drop_nil]
      clear hk hu hF h49 h50 h51 h52 h53 h54 h55 h56 h57 h58 h59
      have hbb : Below w7.heap.size w7 w' := hb
      replace HBW := Lib.hid (HBW.out.trans (hb.mono HBW.out.size))
      replace HU := Lib.hid (fun W (h : Below w'.heap.size w' W) => HU.out W (hbb.trans (h.mono hbb.size)))
      replace HRG := Lib.hid (fun W (h : Below w'.heap.size w' W) => HRG.out W (hbb.trans (h.mono hbb.size)))
      replace HV1 := Lib.hid (HV1.out.on hbb)
      replace HV2 := Lib.hid (HV2.out.on hbb)
      obtain ⟨wb, rfl⟩ : ∃ y : World, y = w' := ⟨_, rfl⟩
      clear hb hbb HCK HRV
      cases D with
      | false =>
        have hne : ¬ (I : Int) = (J : Int) := fun e => of_decide_eq_false HED.out (by
          obtain rfl : I = J := by omega
          exact HOWN.out rfl)
        have hne2 : ((I : Int) != (J : Int)) = true := by simp only [bne_iff_ne, ne_eq]; exact hne
        clear HU
        go_wp2_with fail
        with_reducible refine (wakes7_any wb (tab_in HT.out HBW.out)).mono ?_
        rintro e wz ⟨rfl, hb⟩
        replace HBW := Lib.hid (HBW.out.trans (hb.mono HBW.out.size))
        clear hb
        go_wp2_with fail
        go_ret
        exact ⟨by kernel_rfl, HBW.out⟩
      | true =>
        have k3 := K3.out (of_decide_eq_true HED.out)
        go_wp2_with fail
        go_cut [12, 13] from 66 to 82 (fun r k wx => ∃ g X4 x4 Y4 y4, r = .pointer (some ⟨g, 0, none⟩) ∧ k = .bool K ∧ Hid (Blk wx g #[.slice X4 n1 x4, .slice Y4 n2 y4] 41) ∧ Hid (TV wx (.slice X4 n1 x4) s1) ∧ Hid (TV wx (.slice Y4 n2 y4) s2) ∧ Below wb.heap.size wb wx)
        case first =>
          refine wp_region_held_drew (S := fun W => Below wb.heap.size wb W) (by kernel_rfl) ((Below.refl _ _).drew) (fun hHeld => ?_)
          generalize wb.drew = WW at *
          refine wpAnyH_takeL (i := 0) (v := .slice (some ⟨gb, off, none⟩) z c) rfl (by kernel_rfl) (by kernel_rfl) (by kernel_rfl) (fun _ _ _ h => h) (Or.inl ⟨by rfl, fun W hW => by go_simp⟩) hHeld ?_
          try simp only [Act.put, List.setIfInBounds_toArray, List.set_cons_zero, List.set_cons_succ]
          refine wpAnyH_takeL (i := 1) (v := .int .i64 (z : Int)) rfl (by kernel_rfl) (by kernel_rfl) (by kernel_rfl) (fun _ _ _ h => h) (Or.inl ⟨by rfl, fun W hW => by go_simp⟩) hHeld ?_
          try simp only [Act.put, List.setIfInBounds_toArray, List.set_cons_zero, List.set_cons_succ]
          refine wpAnyH_takeL (i := 2) (v := .int .i64 (J : Int)) rfl (by kernel_rfl) (by kernel_rfl) (by kernel_rfl) (fun _ _ _ h => h) (Or.inl ⟨by rfl, fun W hW => by go_simp⟩) hHeld ?_
          try simp only [Act.put, List.setIfInBounds_toArray, List.set_cons_zero, List.set_cons_succ]
          refine wpAnyH_takeL (i := 3) (v := .slice (some ⟨gb, off, none⟩) z c) rfl (by kernel_rfl) (by kernel_rfl) (by kernel_rfl) (fun _ _ _ h => h) (Or.inl ⟨by rfl, fun W hW => by go_simp⟩) hHeld ?_
          try simp only [Act.put, List.setIfInBounds_toArray, List.set_cons_zero, List.set_cons_succ]
          refine wpAnyH_takeL (i := 4) (v := .int .i64 (I : Int)) rfl (by kernel_rfl) (by kernel_rfl) (by kernel_rfl) (fun _ _ _ h => h) (Or.inl ⟨by rfl, fun W hW => by go_simp⟩) hHeld ?_
          try simp only [Act.put, List.setIfInBounds_toArray, List.set_cons_zero, List.set_cons_succ]
          refine wpAnyH_takeL (i := 5) (v := .pointer (some ⟨gb, off + I * 32, none⟩)) rfl (by kernel_rfl) (by kernel_rfl) (by kernel_rfl) (fun _ _ _ h => h) (Or.inl ⟨by rfl, fun W hW => by go_simp⟩) hHeld ?_
          try simp only [Act.put, List.setIfInBounds_toArray, List.set_cons_zero, List.set_cons_succ]
          refine wpAnyH_takeL (i := 6) (v := .agg X) rfl (by kernel_rfl) (by kernel_rfl) (by kernel_rfl) (fun _ _ _ h => h) ?_ hHeld ?_
          · exact yieldsIf_load_hash (by rfl) (.tmp 72) rfl gb (off + I * 32) (by kernel_rfl) x HLX.out (fun W hW => (HRG.out W hW).1) X HEX.out
          try simp only [Act.put, List.setIfInBounds_toArray, List.set_cons_zero, List.set_cons_succ]
          refine wpAnyH_takeL (i := 7) (v := .slice (some ⟨gb, off, none⟩) z c) rfl (by kernel_rfl) (by kernel_rfl) (by kernel_rfl) (fun _ _ _ h => h) (Or.inl ⟨by rfl, fun W hW => by go_simp⟩) hHeld ?_
          try simp only [Act.put, List.setIfInBounds_toArray, List.set_cons_zero, List.set_cons_succ]
          refine wpAnyH_takeL (i := 8) (v := .int .i64 (J : Int)) rfl (by kernel_rfl) (by kernel_rfl) (by kernel_rfl) (fun _ _ _ h => h) (Or.inl ⟨by rfl, fun W hW => by go_simp⟩) hHeld ?_
          try simp only [Act.put, List.setIfInBounds_toArray, List.set_cons_zero, List.set_cons_succ]
          refine wpAnyH_takeL (i := 9) (v := .pointer (some ⟨gb, off + J * 32, none⟩)) rfl (by kernel_rfl) (by kernel_rfl) (by kernel_rfl) (fun _ _ _ h => h) (Or.inl ⟨by rfl, fun W hW => by go_simp⟩) hHeld ?_
          try simp only [Act.put, List.setIfInBounds_toArray, List.set_cons_zero, List.set_cons_succ]
          refine wpAnyH_takeL (i := 10) (v := .agg Y) rfl (by kernel_rfl) (by kernel_rfl) (by kernel_rfl) (fun _ _ _ h => h) ?_ hHeld ?_
          · exact yieldsIf_load_hash (by rfl) (.tmp 76) rfl gb (off + J * 32) (by kernel_rfl) y HLY.out (fun W hW => (HRG.out W hW).2) Y HEY.out
          try simp only [Act.put, List.setIfInBounds_toArray, List.set_cons_zero, List.set_cons_succ]
          refine wpAnyH_takeL (i := 11) (v := .slice A1 q c1) rfl (by kernel_rfl) (by kernel_rfl) (by kernel_rfl) (fun _ _ _ h => h) (Or.inl ⟨by rfl, fun W hW => by go_simp⟩) hHeld ?_
          try simp only [Act.put, List.setIfInBounds_toArray, List.set_cons_zero, List.set_cons_succ]
          refine wpAnyH_takeL (i := 12) (v := .slice A2 q c2) rfl (by kernel_rfl) (by kernel_rfl) (by kernel_rfl) (fun _ _ _ h => h) (Or.inl ⟨by rfl, fun W hW => by go_simp⟩) hHeld ?_
          try simp only [Act.put, List.setIfInBounds_toArray, List.set_cons_zero, List.set_cons_succ]
          refine wpAnyH_ready (rs := [13, 17]) (by kernel_rfl) (by simp) ?_
          refine allReadyH_two rfl rfl (fun KK hK => ?_) (fun KK hK => ?_)
          · rw [if_pos (by rfl)]
            go_simp
            with_reducible refine (HU.out _ hHeld).mono ?_
            rintro e w4 ⟨A0, B0, rfl, hA0, hB0, hb⟩
            rw [HS1.out] at hA0
            rw [HS2.out] at hB0
            obtain ⟨X4, x4, rfl, _, _⟩ := id hA0
            obtain ⟨Y4, y4, rfl, _, _⟩ := id hB0
            have HTA := Lib.hid hA0
            have HTB := Lib.hid hB0
            clear hA0 hB0
            rw [HN1.out] at HTA ⊢
            rw [HN2.out] at HTB ⊢
            rw [HK.out]
            have HW4 := Lib.hid (show Below wb.heap.size wb w4 from hHeld.trans (hb.mono hHeld.size))
            go_wp2_with fail
            refine hK.out _ _ (HW4.out) (fun hHeld => ?_)
            clear hK KK
            try simp only [Act.put, List.setIfInBounds_toArray, List.set_cons_zero, List.set_cons_succ]
            refine wpAnyH_takeL (i := 14) (v := .tuple #[.agg #[.slice X4 n1 x4, .slice Y4 n2 y4], .bool K]) rfl (by kernel_rfl) (by kernel_rfl) (by kernel_rfl) (fun _ _ _ h => h) (Or.inl ⟨by rfl, fun W hW => by go_simp⟩) hHeld ?_
            try simp only [Act.put, List.setIfInBounds_toArray, List.set_cons_zero, List.set_cons_succ]
            refine wpAnyH_takeL (i := 15) (v := .agg #[.slice X4 n1 x4, .slice Y4 n2 y4]) rfl (by kernel_rfl) (by kernel_rfl) (by kernel_rfl) (fun _ _ _ h => h) (Or.inl ⟨by rfl, fun W hW => by go_simp⟩) hHeld ?_
            try simp only [Act.put, List.setIfInBounds_toArray, List.set_cons_zero, List.set_cons_succ]
            refine wpAnyH_takeL (i := 16) (v := .bool K) rfl (by kernel_rfl) (by kernel_rfl) (by kernel_rfl) (fun _ _ _ h => h) (Or.inl ⟨by rfl, fun W hW => by go_simp⟩) hHeld ?_
            try simp only [Act.put, List.setIfInBounds_toArray, List.set_cons_zero, List.set_cons_succ]
            refine wpAnyH_ready (rs := [17]) (by kernel_rfl) (by simp) ?_
            refine allReadyH_consL rfl fun KK hK => ?_
            rw [if_pos (by rfl)]
            go_simp
            have hal := (Below.refl w4.heap.size w4).alloc (Nat.le_refl _) (.cells #[.slice none 0 0, .slice none 0 0] 41)
            have HAL := Lib.hid (show Below wb.heap.size wb (w4.alloc (.cells #[.slice none 0 0, .slice none 0 0] 41)) from hHeld.trans (hal.mono hHeld.size))
            have HBB := Lib.hid (show Blk (w4.alloc (.cells #[.slice none 0 0, .slice none 0 0] 41)) w4.heap.size #[.slice none 0 0, .slice none 0 0] 41 from Blk.new _ _ _)
            have HGB := Lib.hid (show wb.heap.size ≤ w4.heap.size from hHeld.size)
            replace HTA := Lib.hid (HTA.out.on hal)
            replace HTB := Lib.hid (HTB.out.on hal)
            refine hK.out _ _ (HAL.out) (fun hHeld => ?_)
            clear hK KK
            try simp only [Act.put, List.setIfInBounds_toArray, List.set_cons_zero, List.set_cons_succ]
            obtain ⟨gk, hgk⟩ : ∃ g, w4.heap.size = g := ⟨_, rfl⟩
            rw [hgk] at HBB HGB ⊢
            clear hgk hal
            have hc0 := HBB.out.cell 0
            have hc1 := HBB.out.cell 1
            have hf0 := HBB.out.frozen 0
            have hf1 := HBB.out.frozen 1
            simp at hc0 hc1
            refine wpAnyH_ready (rs := [18]) (by kernel_rfl) (by simp) ?_
            refine allReadyH_consL rfl fun KK hK => ?_
            rw [if_pos (by rfl)]
            go_simp
            refine hK.out _ _ ((hHeld.setCell (p := ⟨gk, 0, none⟩) HGB.out _).setCell (p := ⟨gk, 1, none⟩) HGB.out _) (fun hHeld => ?_)
            clear hK KK
            try simp only [Act.put, List.setIfInBounds_toArray, List.set_cons_zero, List.set_cons_succ]
            have HF1 := Lib.hid (tv_sets HTA.out HBB.out X4 Y4 n1 n2 x4 y4)
            have HF2 := Lib.hid (tv_sets HTB.out HBB.out X4 Y4 n1 n2 x4 y4)
            have HF3 := Lib.hid (show Blk _ gk #[.slice X4 n1 x4, .slice Y4 n2 y4] 41 from ((HBB.out.set 0 (.slice X4 n1 x4)).set 1 (.slice Y4 n2 y4)))
            clear hc0 hc1 hf0 hf1
            refine wpAnyH_ready (rs := [19]) (by kernel_rfl) (by simp) ?_
            refine allReadyH_consL rfl fun KK hK => ?_
            rw [if_pos (by rfl)]
            go_simp
            refine hK.out _ _ hHeld (fun hHeld => ?_)
            clear hK KK
            try simp only [Act.put, List.setIfInBounds_toArray, List.set_cons_zero, List.set_cons_succ]
            refine wpAnyH_done (by kernel_rfl) ?_ _
            go_wp2_with fail
            go_meet
            case rel => exact ⟨gk, X4, x4, Y4, y4, rfl, rfl, HF3, HF1, HF2, hHeld⟩
          · rw [if_pos (by rfl)]
            go_simp
            have hal := (Below.refl WW.heap.size WW).alloc (Nat.le_refl _) (.cells #[.slice none 0 0, .slice none 0 0] 41)
            have HAL := Lib.hid (show Below wb.heap.size wb (WW.alloc (.cells #[.slice none 0 0, .slice none 0 0] 41)) from hHeld.trans (hal.mono hHeld.size))
            have HBB := Lib.hid (show Blk (WW.alloc (.cells #[.slice none 0 0, .slice none 0 0] 41)) WW.heap.size #[.slice none 0 0, .slice none 0 0] 41 from Blk.new _ _ _)
            have HGB := Lib.hid (show wb.heap.size ≤ WW.heap.size from hHeld.size)
            refine hK.out _ _ (HAL.out) (fun hHeld => ?_)
            clear hK KK
            try simp only [Act.put, List.setIfInBounds_toArray, List.set_cons_zero, List.set_cons_succ]
            obtain ⟨gk, hgk⟩ : ∃ g, WW.heap.size = g := ⟨_, rfl⟩
            rw [hgk] at HBB HGB ⊢
            clear hgk hal
            refine wpAnyH_ready (rs := [13]) (by kernel_rfl) (by simp) ?_
            refine allReadyH_consL rfl fun KK hK => ?_
            rw [if_pos (by rfl)]
            go_simp
            with_reducible refine (HU.out _ hHeld).mono ?_
            rintro e w4 ⟨A0, B0, rfl, hA0, hB0, hb⟩
            rw [HS1.out] at hA0
            rw [HS2.out] at hB0
            obtain ⟨X4, x4, rfl, _, _⟩ := id hA0
            obtain ⟨Y4, y4, rfl, _, _⟩ := id hB0
            have HTA := Lib.hid hA0
            have HTB := Lib.hid hB0
            clear hA0 hB0
            rw [HN1.out] at HTA ⊢
            rw [HN2.out] at HTB ⊢
            rw [HK.out]
            have HW4 := Lib.hid (show Below wb.heap.size wb w4 from hHeld.trans (hb.mono hHeld.size))
            replace HBB := Lib.hid (HBB.out.below hb HBB.out.lt)
            go_wp2_with fail
            refine hK.out _ _ (HW4.out) (fun hHeld => ?_)
            clear hK KK
            try simp only [Act.put, List.setIfInBounds_toArray, List.set_cons_zero, List.set_cons_succ]
            refine wpAnyH_takeL (i := 14) (v := .tuple #[.agg #[.slice X4 n1 x4, .slice Y4 n2 y4], .bool K]) rfl (by kernel_rfl) (by kernel_rfl) (by kernel_rfl) (fun _ _ _ h => h) (Or.inl ⟨by rfl, fun W hW => by go_simp⟩) hHeld ?_
            try simp only [Act.put, List.setIfInBounds_toArray, List.set_cons_zero, List.set_cons_succ]
            refine wpAnyH_takeL (i := 15) (v := .agg #[.slice X4 n1 x4, .slice Y4 n2 y4]) rfl (by kernel_rfl) (by kernel_rfl) (by kernel_rfl) (fun _ _ _ h => h) (Or.inl ⟨by rfl, fun W hW => by go_simp⟩) hHeld ?_
            try simp only [Act.put, List.setIfInBounds_toArray, List.set_cons_zero, List.set_cons_succ]
            refine wpAnyH_takeL (i := 16) (v := .bool K) rfl (by kernel_rfl) (by kernel_rfl) (by kernel_rfl) (fun _ _ _ h => h) (Or.inl ⟨by rfl, fun W hW => by go_simp⟩) hHeld ?_
            try simp only [Act.put, List.setIfInBounds_toArray, List.set_cons_zero, List.set_cons_succ]
            have hc0 := HBB.out.cell 0
            have hc1 := HBB.out.cell 1
            have hf0 := HBB.out.frozen 0
            have hf1 := HBB.out.frozen 1
            simp at hc0 hc1
            refine wpAnyH_ready (rs := [18]) (by kernel_rfl) (by simp) ?_
            refine allReadyH_consL rfl fun KK hK => ?_
            rw [if_pos (by rfl)]
            go_simp
            refine hK.out _ _ ((hHeld.setCell (p := ⟨gk, 0, none⟩) HGB.out _).setCell (p := ⟨gk, 1, none⟩) HGB.out _) (fun hHeld => ?_)
            clear hK KK
            try simp only [Act.put, List.setIfInBounds_toArray, List.set_cons_zero, List.set_cons_succ]
            have HF1 := Lib.hid (tv_sets HTA.out HBB.out X4 Y4 n1 n2 x4 y4)
            have HF2 := Lib.hid (tv_sets HTB.out HBB.out X4 Y4 n1 n2 x4 y4)
            have HF3 := Lib.hid (show Blk _ gk #[.slice X4 n1 x4, .slice Y4 n2 y4] 41 from ((HBB.out.set 0 (.slice X4 n1 x4)).set 1 (.slice Y4 n2 y4)))
            clear hc0 hc1 hf0 hf1
            refine wpAnyH_ready (rs := [19]) (by kernel_rfl) (by simp) ?_
            refine allReadyH_consL rfl fun KK hK => ?_
            rw [if_pos (by rfl)]
            go_simp
            refine hK.out _ _ hHeld (fun hHeld => ?_)
            clear hK KK
            try simp only [Act.put, List.setIfInBounds_toArray, List.set_cons_zero, List.set_cons_succ]
            refine wpAnyH_done (by kernel_rfl) ?_ _
            go_wp2_with fail
            go_meet
            case rel => exact ⟨gk, X4, x4, Y4, y4, rfl, rfl, HF3, HF1, HF2, hHeld⟩
        case rest =>
          obtain ⟨gk, X4, x4, Y4, y4, rfl, rfl, HBK, HTA, HTB, hbk⟩ := hcut
          have hbk2 := hbk
          clear hbk
          have HSM0 := Lib.hid (fun W (h : Below wc.heap.size wc W) => ksame7_any (HV1.out.on (hbk2.trans (h.mono hbk2.size))) (HV2.out.on (hbk2.trans (h.mono hbk2.size))) (by rw [HQ1.out]; omega))
          by_cases hxy : x = y
          · have heq := fun W => (HXY.out W).trans (by rw [decide_eq_true hxy])
            by_cases hpq : ps1 = ps2
            · have HSM := Lib.hid (fun W (h : Below wc.heap.size wc W) => (show Calls Tryd.prog 22 #[.slice A1 q c1, .slice A2 q c2] W fun e w' => e = .returned (.bool true) ∧ Below W.heap.size W w' from by
                have h2 := HSM0.out W h
                rw [decide_eq_true hpq] at h2
                exact h2))
              obtain rfl : K = false := by
                rw [← HKD.out]
                exact decide_eq_false (fun h => h.2.2.2 ⟨hxy, hpq⟩)
              clear HSM0 HXY HKD k1 k2 k3 hxy hpq
              go_wp2_with fail
              refine wp_region_loose 15 0 (fun i => false) (promises [.is (.slice (some ⟨gb, off, none⟩) z c), .is (.int .i64 (I : Int)), .is (.pointer (some ⟨gb, off + I * 32, none⟩)), .is (.agg X), .is (.slice (some ⟨gb, off, none⟩) z c), .is (.int .i64 (J : Int)), .is (.pointer (some ⟨gb, off + J * 32, none⟩)), .is (.agg Y), .is (.bool true), .is (.bool true), .is (.slice A1 q c1), .is (.slice A2 q c2), .is (.bool true), .is (.bool true), .is (.bool true)]) (by kernel_rfl) rfl (by kernel_rfl) (fun i v w w' h hb => Spec.keep h hb) ⟨?_, ?_, ?_, ?_, ?_, ?_, ?_, ?_, ?_, ?_, ?_, ?_, ?_, ?_, ?_, trivial⟩ ?_
              · refine StepOKl.of ?_
                intro ac w hb hu hk
                refine ⟨wanted_none rfl, ?_⟩
                have e0 : ac.eval (.tmp 0) = .slice (some ⟨gb, off, none⟩) z c := hu.is (t := 0) (by kernel_rfl)
                exact step_value (BigFrame.run_move (.tmp 0) rfl w) (Below.refl _ _) e0
              · refine StepOKl.of ?_
                intro ac w hb hu hk
                refine ⟨wanted_none rfl, ?_⟩
                have e1 : ac.eval (.tmp 1) = .int .i64 (I : Int) := hu.is (t := 1) (by kernel_rfl)
                exact step_value (BigFrame.run_move (.tmp 1) rfl w) (Below.refl _ _) e1
              · refine StepOKl.of ?_
                intro ac w hb hu hk
                refine ⟨wanted_none rfl, ?_⟩
                have e83 : ac.eval (.tmp 83) = (.slice (some ⟨gb, off, none⟩) z c) := (hk ⟨0, .data⟩ (by simp) rfl).is rfl rfl
                have e84 : ac.eval (.tmp 84) = (.int .i64 (I : Int)) := (hk ⟨1, .data⟩ (by simp) rfl).is rfl rfl
                refine step_value (w' := w) (v := (.pointer (some ⟨gb, off + I * 32, none⟩))) ?_ (Below.refl _ _) rfl
                generalize ac.eval = ρ at e83 e84 ⊢
                go_simp
              · refine StepOKl.of ?_
                intro ac w hb hu hk
                refine ⟨wanted_none rfl, ?_⟩
                have e85 : ac.eval (.tmp 85) = (.pointer (some ⟨gb, off + I * 32, none⟩)) := (hk ⟨2, .data⟩ (by simp) rfl).is rfl rfl
                refine step_value (w' := w) (v := .agg X) (run_load_hash (.tmp 85) rfl gb (off + I * 32) e85 x HLX.out ((HRG.out w (hbk2.trans (hb.mono hbk2.size))).1) HEX.out) (Below.refl _ _) rfl
              · refine StepOKl.of ?_
                intro ac w hb hu hk
                refine ⟨wanted_none rfl, ?_⟩
                have e0 : ac.eval (.tmp 0) = .slice (some ⟨gb, off, none⟩) z c := hu.is (t := 0) (by kernel_rfl)
                exact step_value (BigFrame.run_move (.tmp 0) rfl w) (Below.refl _ _) e0
              · refine StepOKl.of ?_
                intro ac w hb hu hk
                refine ⟨wanted_none rfl, ?_⟩
                have e2 : ac.eval (.tmp 2) = .int .i64 (J : Int) := hu.is (t := 2) (by kernel_rfl)
                exact step_value (BigFrame.run_move (.tmp 2) rfl w) (Below.refl _ _) e2
              · refine StepOKl.of ?_
                intro ac w hb hu hk
                refine ⟨wanted_none rfl, ?_⟩
                have e87 : ac.eval (.tmp 87) = (.slice (some ⟨gb, off, none⟩) z c) := (hk ⟨4, .data⟩ (by simp) rfl).is rfl rfl
                have e88 : ac.eval (.tmp 88) = (.int .i64 (J : Int)) := (hk ⟨5, .data⟩ (by simp) rfl).is rfl rfl
                refine step_value (w' := w) (v := (.pointer (some ⟨gb, off + J * 32, none⟩))) ?_ (Below.refl _ _) rfl
                generalize ac.eval = ρ at e87 e88 ⊢
                go_simp
              · refine StepOKl.of ?_
                intro ac w hb hu hk
                refine ⟨wanted_none rfl, ?_⟩
                have e89 : ac.eval (.tmp 89) = (.pointer (some ⟨gb, off + J * 32, none⟩)) := (hk ⟨6, .data⟩ (by simp) rfl).is rfl rfl
                refine step_value (w' := w) (v := .agg Y) (run_load_hash (.tmp 89) rfl gb (off + J * 32) e89 y HLY.out ((HRG.out w (hbk2.trans (hb.mono hbk2.size))).2) HEY.out) (Below.refl _ _) rfl
              · refine StepOKl.of ?_
                intro ac w hb hu hk
                refine ⟨wanted_none rfl, ?_⟩
                have e86 : ac.eval (.tmp 86) = (.agg X) := (hk ⟨3, .data⟩ (by simp) rfl).is rfl rfl
                have e90 : ac.eval (.tmp 90) = (.agg Y) := (hk ⟨7, .data⟩ (by simp) rfl).is rfl rfl
                refine step_value (w' := w) (v := .bool true) ?_ (Below.refl _ _) rfl
                have hq := heq w
                generalize ac.eval = ρ at e86 e90 ⊢
                go_simp
              · refine StepOKl.of ?_
                intro ac w hb hu hk
                refine ⟨wanted_none rfl, ?_⟩
                have e91 : ac.eval (.tmp 91) = (.bool true) := (hk ⟨8, .data⟩ (by simp) rfl).is rfl rfl
                exact step_value (BigFrame.run_move (.tmp 91) rfl w) (Below.refl _ _) e91
              · refine StepOKl.of ?_
                intro ac w hb hu hk
                refine ⟨wanted_some rfl (hk ⟨9, .guard⟩ (by simp) rfl) rfl rfl (fun _ h => h), ?_⟩
                have e8 : ac.eval (.tmp 8) = .slice A1 q c1 := hu.is (t := 8) (by kernel_rfl)
                exact step_value (BigFrame.run_move (.tmp 8) rfl w) (Below.refl _ _) e8
              · refine StepOKl.of ?_
                intro ac w hb hu hk
                refine ⟨wanted_some rfl (hk ⟨9, .guard⟩ (by simp) rfl) rfl rfl (fun _ h => h), ?_⟩
                have e10 : ac.eval (.tmp 10) = .slice A2 q c2 := hu.is (t := 10) (by kernel_rfl)
                exact step_value (BigFrame.run_move (.tmp 10) rfl w) (Below.refl _ _) e10
              · refine StepOKl.of ?_
                intro ac w hb hu hk
                refine ⟨wanted_some rfl (hk ⟨9, .chain⟩ (by simp) rfl) rfl rfl (fun _ h => h), ?_⟩
                have e93 : ac.eval (.tmp 93) = (.slice A1 q c1) := (hk ⟨10, .data⟩ (by simp) rfl).is rfl rfl
                have e94 : ac.eval (.tmp 94) = (.slice A2 q c2) := (hk ⟨11, .data⟩ (by simp) rfl).is rfl rfl
                have ef : ac.eval (.func 22) = .func (.func 22) #[] #[] := rfl
                refine step_enter (f := 22) (args := #[.slice A1 q c1, .slice A2 q c2]) ?_ ?_
                · generalize ac.eval = ρ at e93 e94 ef ⊢
                  go_simp
                · exact (HSM.out w hb).mono fun e w' ⟨he, hq⟩ => ⟨_, he, rfl, hq⟩
              · refine StepOKl.of ?_
                intro ac w hb hu hk
                refine ⟨wanted_none rfl, ?_⟩
                have e92 : ac.eval (.tmp 92) = (.bool true) := (hk ⟨9, .data⟩ (by simp) rfl).is rfl rfl
                have e95 : ac.eval (.tmp 95) = (.bool true) := (hk ⟨12, .data⟩ (by simp) rfl).is rfl rfl
                exact step_value (run_pick_true e92 rfl w) (Below.refl _ _) e95
              · refine StepOKl.of ?_
                intro ac w hb hu hk
                refine ⟨wanted_none rfl, ?_⟩
                have e96 : ac.eval (.tmp 96) = (.bool true) := (hk ⟨13, .data⟩ (by simp) rfl).is rfl rfl
                exact step_value (BigFrame.run_assign (.tmp 96) rfl w) (Below.refl _ _) e96
              · intro ac w' hb hu hk hap
                obtain ⟨_, h14, rfl⟩ := (hk 14 (by decide)).put rfl rfl
                obtain ⟨_, h83, rfl⟩ := (hk 0 (by decide)).put rfl rfl
                obtain ⟨_, h84, rfl⟩ := (hk 1 (by decide)).put rfl rfl
                obtain ⟨_, h85, rfl⟩ := (hk 2 (by decide)).put rfl rfl
                obtain ⟨_, h86, rfl⟩ := (hk 3 (by decide)).put rfl rfl
                obtain ⟨_, h87, rfl⟩ := (hk 4 (by decide)).put rfl rfl
                obtain ⟨_, h88, rfl⟩ := (hk 5 (by decide)).put rfl rfl
                obtain ⟨_, h89, rfl⟩ := (hk 6 (by decide)).put rfl rfl
                obtain ⟨_, h90, rfl⟩ := (hk 7 (by decide)).put rfl rfl
                obtain ⟨_, h91, rfl⟩ := (hk 8 (by decide)).put rfl rfl
                obtain ⟨_, h92, rfl⟩ := (hk 9 (by decide)).put rfl rfl
                obtain ⟨_, h93, rfl⟩ := (hk 10 (by decide)).put rfl rfl
                obtain ⟨_, h94, rfl⟩ := (hk 11 (by decide)).put rfl rfl
                obtain ⟨_, h95, rfl⟩ := (hk 12 (by decide)).put rfl rfl
                obtain ⟨_, h96, rfl⟩ := (hk 13 (by decide)).put rfl rfl
                clear hap
                have hF : AllPuts ac.tmps ((14, _) :: (83, _) :: (84, _) :: (85, _) :: (86, _) :: (87, _) :: (88, _) :: (89, _) :: (90, _) :: (91, _) :: (92, _) :: (93, _) :: (94, _) :: (95, _) :: (96, _) :: []) := ⟨h14, h83, h84, h85, h86, h87, h88, h89, h90, h91, h92, h93, h94, h95, h96, trivial⟩
                obtain rfl := frame_puts hu (by kernel_rfl) hF
                simp only [puts, Act.put, List.setIfInBounds_toArray, List.set_cons_zero, List.set_cons_succ, List.drop_succ_cons, List.drop_nil]
                clear hk hu hF h14 h83 h84 h85 h86 h87 h88 h89 h90 h91 h92 h93 h94 h95 h96
                obtain rfl : n1 = 0 := HKN.out (by simp)
                have HBN := Lib.hid (HBW.out.trans ((hbk2.trans (hb.mono hbk2.size)).mono HBW.out.size))
                clear HBW
                have HBW := HBN
                replace HBK := Lib.hid (HBK.out.below hb HBK.out.lt)
                have hc0 := HBK.out.cell 0
                simp at hc0
                clear hb hbk2 HRG HSM
                go_wp2_with fail
                with_reducible refine (wakes7_any w' (tab_in HT.out HBW.out)).mono ?_
                rintro e wz ⟨rfl, hb⟩
                replace HBW := Lib.hid (HBW.out.trans (hb.mono HBW.out.size))
                clear hb
                go_wp2_with fail
                go_ret
                exact ⟨by kernel_rfl, HBW.out⟩
            · have HSM := Lib.hid (fun W (h : Below wc.heap.size wc W) => (show Calls Tryd.prog 22 #[.slice A1 q c1, .slice A2 q c2] W fun e w' => e = .returned (.bool false) ∧ Below W.heap.size W w' from by
                have h2 := HSM0.out W h
                rw [decide_eq_false hpq] at h2
                exact h2))
              obtain rfl : K = true := by
                rw [← HKD.out]
                exact decide_eq_true ⟨k1, k2, k3, fun h => hpq h.2⟩
              clear HSM0 HXY HKD k1 k2 k3 hxy hpq
              go_wp2_with fail
              refine wp_region_loose 15 0 (fun i => false) (promises [.is (.slice (some ⟨gb, off, none⟩) z c), .is (.int .i64 (I : Int)), .is (.pointer (some ⟨gb, off + I * 32, none⟩)), .is (.agg X), .is (.slice (some ⟨gb, off, none⟩) z c), .is (.int .i64 (J : Int)), .is (.pointer (some ⟨gb, off + J * 32, none⟩)), .is (.agg Y), .is (.bool true), .is (.bool true), .is (.slice A1 q c1), .is (.slice A2 q c2), .is (.bool false), .is (.bool false), .is (.bool false)]) (by kernel_rfl) rfl (by kernel_rfl) (fun i v w w' h hb => Spec.keep h hb) ⟨?_, ?_, ?_, ?_, ?_, ?_, ?_, ?_, ?_, ?_, ?_, ?_, ?_, ?_, ?_, trivial⟩ ?_
              · refine StepOKl.of ?_
                intro ac w hb hu hk
                refine ⟨wanted_none rfl, ?_⟩
                have e0 : ac.eval (.tmp 0) = .slice (some ⟨gb, off, none⟩) z c := hu.is (t := 0) (by kernel_rfl)
                exact step_value (BigFrame.run_move (.tmp 0) rfl w) (Below.refl _ _) e0
              · refine StepOKl.of ?_
                intro ac w hb hu hk
                refine ⟨wanted_none rfl, ?_⟩
                have e1 : ac.eval (.tmp 1) = .int .i64 (I : Int) := hu.is (t := 1) (by kernel_rfl)
                exact step_value (BigFrame.run_move (.tmp 1) rfl w) (Below.refl _ _) e1
              · refine StepOKl.of ?_
                intro ac w hb hu hk
                refine ⟨wanted_none rfl, ?_⟩
                have e83 : ac.eval (.tmp 83) = (.slice (some ⟨gb, off, none⟩) z c) := (hk ⟨0, .data⟩ (by simp) rfl).is rfl rfl
                have e84 : ac.eval (.tmp 84) = (.int .i64 (I : Int)) := (hk ⟨1, .data⟩ (by simp) rfl).is rfl rfl
                refine step_value (w' := w) (v := (.pointer (some ⟨gb, off + I * 32, none⟩))) ?_ (Below.refl _ _) rfl
                generalize ac.eval = ρ at e83 e84 ⊢
                go_simp
              · refine StepOKl.of ?_
                intro ac w hb hu hk
                refine ⟨wanted_none rfl, ?_⟩
                have e85 : ac.eval (.tmp 85) = (.pointer (some ⟨gb, off + I * 32, none⟩)) := (hk ⟨2, .data⟩ (by simp) rfl).is rfl rfl
                refine step_value (w' := w) (v := .agg X) (run_load_hash (.tmp 85) rfl gb (off + I * 32) e85 x HLX.out ((HRG.out w (hbk2.trans (hb.mono hbk2.size))).1) HEX.out) (Below.refl _ _) rfl
              · refine StepOKl.of ?_
                intro ac w hb hu hk
                refine ⟨wanted_none rfl, ?_⟩
                have e0 : ac.eval (.tmp 0) = .slice (some ⟨gb, off, none⟩) z c := hu.is (t := 0) (by kernel_rfl)
                exact step_value (BigFrame.run_move (.tmp 0) rfl w) (Below.refl _ _) e0
              · refine StepOKl.of ?_
                intro ac w hb hu hk
                refine ⟨wanted_none rfl, ?_⟩
                have e2 : ac.eval (.tmp 2) = .int .i64 (J : Int) := hu.is (t := 2) (by kernel_rfl)
                exact step_value (BigFrame.run_move (.tmp 2) rfl w) (Below.refl _ _) e2
              · refine StepOKl.of ?_
                intro ac w hb hu hk
                refine ⟨wanted_none rfl, ?_⟩
                have e87 : ac.eval (.tmp 87) = (.slice (some ⟨gb, off, none⟩) z c) := (hk ⟨4, .data⟩ (by simp) rfl).is rfl rfl
                have e88 : ac.eval (.tmp 88) = (.int .i64 (J : Int)) := (hk ⟨5, .data⟩ (by simp) rfl).is rfl rfl
                refine step_value (w' := w) (v := (.pointer (some ⟨gb, off + J * 32, none⟩))) ?_ (Below.refl _ _) rfl
                generalize ac.eval = ρ at e87 e88 ⊢
                go_simp
              · refine StepOKl.of ?_
                intro ac w hb hu hk
                refine ⟨wanted_none rfl, ?_⟩
                have e89 : ac.eval (.tmp 89) = (.pointer (some ⟨gb, off + J * 32, none⟩)) := (hk ⟨6, .data⟩ (by simp) rfl).is rfl rfl
                refine step_value (w' := w) (v := .agg Y) (run_load_hash (.tmp 89) rfl gb (off + J * 32) e89 y HLY.out ((HRG.out w (hbk2.trans (hb.mono hbk2.size))).2) HEY.out) (Below.refl _ _) rfl
              · refine StepOKl.of ?_
                intro ac w hb hu hk
                refine ⟨wanted_none rfl, ?_⟩
                have e86 : ac.eval (.tmp 86) = (.agg X) := (hk ⟨3, .data⟩ (by simp) rfl).is rfl rfl
                have e90 : ac.eval (.tmp 90) = (.agg Y) := (hk ⟨7, .data⟩ (by simp) rfl).is rfl rfl
                refine step_value (w' := w) (v := .bool true) ?_ (Below.refl _ _) rfl
                have hq := heq w
                generalize ac.eval = ρ at e86 e90 ⊢
                go_simp
              · refine StepOKl.of ?_
                intro ac w hb hu hk
                refine ⟨wanted_none rfl, ?_⟩
                have e91 : ac.eval (.tmp 91) = (.bool true) := (hk ⟨8, .data⟩ (by simp) rfl).is rfl rfl
                exact step_value (BigFrame.run_move (.tmp 91) rfl w) (Below.refl _ _) e91
              · refine StepOKl.of ?_
                intro ac w hb hu hk
                refine ⟨wanted_some rfl (hk ⟨9, .guard⟩ (by simp) rfl) rfl rfl (fun _ h => h), ?_⟩
                have e8 : ac.eval (.tmp 8) = .slice A1 q c1 := hu.is (t := 8) (by kernel_rfl)
                exact step_value (BigFrame.run_move (.tmp 8) rfl w) (Below.refl _ _) e8
              · refine StepOKl.of ?_
                intro ac w hb hu hk
                refine ⟨wanted_some rfl (hk ⟨9, .guard⟩ (by simp) rfl) rfl rfl (fun _ h => h), ?_⟩
                have e10 : ac.eval (.tmp 10) = .slice A2 q c2 := hu.is (t := 10) (by kernel_rfl)
                exact step_value (BigFrame.run_move (.tmp 10) rfl w) (Below.refl _ _) e10
              · refine StepOKl.of ?_
                intro ac w hb hu hk
                refine ⟨wanted_some rfl (hk ⟨9, .chain⟩ (by simp) rfl) rfl rfl (fun _ h => h), ?_⟩
                have e93 : ac.eval (.tmp 93) = (.slice A1 q c1) := (hk ⟨10, .data⟩ (by simp) rfl).is rfl rfl
                have e94 : ac.eval (.tmp 94) = (.slice A2 q c2) := (hk ⟨11, .data⟩ (by simp) rfl).is rfl rfl
                have ef : ac.eval (.func 22) = .func (.func 22) #[] #[] := rfl
                refine step_enter (f := 22) (args := #[.slice A1 q c1, .slice A2 q c2]) ?_ ?_
                · generalize ac.eval = ρ at e93 e94 ef ⊢
                  go_simp
                · exact (HSM.out w hb).mono fun e w' ⟨he, hq⟩ => ⟨_, he, rfl, hq⟩
              · refine StepOKl.of ?_
                intro ac w hb hu hk
                refine ⟨wanted_none rfl, ?_⟩
                have e92 : ac.eval (.tmp 92) = (.bool true) := (hk ⟨9, .data⟩ (by simp) rfl).is rfl rfl
                have e95 : ac.eval (.tmp 95) = (.bool false) := (hk ⟨12, .data⟩ (by simp) rfl).is rfl rfl
                exact step_value (run_pick_true e92 rfl w) (Below.refl _ _) e95
              · refine StepOKl.of ?_
                intro ac w hb hu hk
                refine ⟨wanted_none rfl, ?_⟩
                have e96 : ac.eval (.tmp 96) = (.bool false) := (hk ⟨13, .data⟩ (by simp) rfl).is rfl rfl
                exact step_value (BigFrame.run_assign (.tmp 96) rfl w) (Below.refl _ _) e96
              · intro ac w' hb hu hk hap
                obtain ⟨_, h14, rfl⟩ := (hk 14 (by decide)).put rfl rfl
                obtain ⟨_, h83, rfl⟩ := (hk 0 (by decide)).put rfl rfl
                obtain ⟨_, h84, rfl⟩ := (hk 1 (by decide)).put rfl rfl
                obtain ⟨_, h85, rfl⟩ := (hk 2 (by decide)).put rfl rfl
                obtain ⟨_, h86, rfl⟩ := (hk 3 (by decide)).put rfl rfl
                obtain ⟨_, h87, rfl⟩ := (hk 4 (by decide)).put rfl rfl
                obtain ⟨_, h88, rfl⟩ := (hk 5 (by decide)).put rfl rfl
                obtain ⟨_, h89, rfl⟩ := (hk 6 (by decide)).put rfl rfl
                obtain ⟨_, h90, rfl⟩ := (hk 7 (by decide)).put rfl rfl
                obtain ⟨_, h91, rfl⟩ := (hk 8 (by decide)).put rfl rfl
                obtain ⟨_, h92, rfl⟩ := (hk 9 (by decide)).put rfl rfl
                obtain ⟨_, h93, rfl⟩ := (hk 10 (by decide)).put rfl rfl
                obtain ⟨_, h94, rfl⟩ := (hk 11 (by decide)).put rfl rfl
                obtain ⟨_, h95, rfl⟩ := (hk 12 (by decide)).put rfl rfl
                obtain ⟨_, h96, rfl⟩ := (hk 13 (by decide)).put rfl rfl
                clear hap
                have hF : AllPuts ac.tmps ((14, _) :: (83, _) :: (84, _) :: (85, _) :: (86, _) :: (87, _) :: (88, _) :: (89, _) :: (90, _) :: (91, _) :: (92, _) :: (93, _) :: (94, _) :: (95, _) :: (96, _) :: []) := ⟨h14, h83, h84, h85, h86, h87, h88, h89, h90, h91, h92, h93, h94, h95, h96, trivial⟩
                obtain rfl := frame_puts hu (by kernel_rfl) hF
                simp only [puts, Act.put, List.setIfInBounds_toArray, List.set_cons_zero, List.set_cons_succ, List.drop_succ_cons, List.drop_nil]
                clear hk hu hF h14 h83 h84 h85 h86 h87 h88 h89 h90 h91 h92 h93 h94 h95 h96
                have HBN := Lib.hid (HBW.out.trans ((hbk2.trans (hb.mono hbk2.size)).mono HBW.out.size))
                clear HBW
                have HBW := HBN
                replace HBK := Lib.hid (HBK.out.below hb HBK.out.lt)
                have hc0 := HBK.out.cell 0
                simp at hc0
                clear hb hbk2 HRG HSM
                go_wp2_with fail
                with_reducible refine (wakes7_any w' (tab_in HT.out HBW.out)).mono ?_
                rintro e wz ⟨rfl, hb⟩
                replace HBW := Lib.hid (HBW.out.trans (hb.mono HBW.out.size))
                clear hb
                go_wp2_with fail
                go_ret
                exact ⟨by kernel_rfl, HBW.out⟩
          · have heq := fun W => (HXY.out W).trans (by rw [decide_eq_false hxy])
            have hdx : decide (x = y) = false := decide_eq_false hxy
            obtain rfl : K = true := by
              rw [← HKD.out]
              exact decide_eq_true ⟨k1, k2, k3, fun h => hxy h.1⟩
            clear HSM0 HKD k1 k2 k3 hxy
            go_wp2_with fail
            refine wp_region_held_drew (S := fun W => Below wc.heap.size wc W) (by kernel_rfl) ((Below.refl _ _).drew) (fun hHeld => ?_)
            generalize wc.drew = WW at *
            refine wpAnyH_takeL (i := 0) (v := .slice (some ⟨gb, off, none⟩) z c) rfl (by kernel_rfl) (by kernel_rfl) (by kernel_rfl) (fun _ _ _ h => h) (Or.inl ⟨by rfl, fun W hW => by go_simp⟩) hHeld ?_
            try simp only [Act.put, List.setIfInBounds_toArray, List.set_cons_zero, List.set_cons_succ]
            refine wpAnyH_takeL (i := 1) (v := .int .i64 (I : Int)) rfl (by kernel_rfl) (by kernel_rfl) (by kernel_rfl) (fun _ _ _ h => h) (Or.inl ⟨by rfl, fun W hW => by go_simp⟩) hHeld ?_
            try simp only [Act.put, List.setIfInBounds_toArray, List.set_cons_zero, List.set_cons_succ]
            refine wpAnyH_takeL (i := 2) (v := .pointer (some ⟨gb, off + I * 32, none⟩)) rfl (by kernel_rfl) (by kernel_rfl) (by kernel_rfl) (fun _ _ _ h => h) (Or.inl ⟨by rfl, fun W hW => by go_simp⟩) hHeld ?_
            try simp only [Act.put, List.setIfInBounds_toArray, List.set_cons_zero, List.set_cons_succ]
            refine wpAnyH_takeL (i := 3) (v := .agg X) rfl (by kernel_rfl) (by kernel_rfl) (by kernel_rfl) (fun _ _ _ h => h) ?_ hHeld ?_
            · exact yieldsIf_load_hash (by rfl) (.tmp 85) rfl gb (off + I * 32) (by kernel_rfl) x HLX.out (fun W hW => (HRG.out W (hbk2.trans (hW.mono hbk2.size))).1) X HEX.out
            try simp only [Act.put, List.setIfInBounds_toArray, List.set_cons_zero, List.set_cons_succ]
            refine wpAnyH_takeL (i := 4) (v := .slice (some ⟨gb, off, none⟩) z c) rfl (by kernel_rfl) (by kernel_rfl) (by kernel_rfl) (fun _ _ _ h => h) (Or.inl ⟨by rfl, fun W hW => by go_simp⟩) hHeld ?_
            try simp only [Act.put, List.setIfInBounds_toArray, List.set_cons_zero, List.set_cons_succ]
            refine wpAnyH_takeL (i := 5) (v := .int .i64 (J : Int)) rfl (by kernel_rfl) (by kernel_rfl) (by kernel_rfl) (fun _ _ _ h => h) (Or.inl ⟨by rfl, fun W hW => by go_simp⟩) hHeld ?_
            try simp only [Act.put, List.setIfInBounds_toArray, List.set_cons_zero, List.set_cons_succ]
            refine wpAnyH_takeL (i := 6) (v := .pointer (some ⟨gb, off + J * 32, none⟩)) rfl (by kernel_rfl) (by kernel_rfl) (by kernel_rfl) (fun _ _ _ h => h) (Or.inl ⟨by rfl, fun W hW => by go_simp⟩) hHeld ?_
            try simp only [Act.put, List.setIfInBounds_toArray, List.set_cons_zero, List.set_cons_succ]
            refine wpAnyH_takeL (i := 7) (v := .agg Y) rfl (by kernel_rfl) (by kernel_rfl) (by kernel_rfl) (fun _ _ _ h => h) ?_ hHeld ?_
            · exact yieldsIf_load_hash (by rfl) (.tmp 89) rfl gb (off + J * 32) (by kernel_rfl) y HLY.out (fun W hW => (HRG.out W (hbk2.trans (hW.mono hbk2.size))).2) Y HEY.out
            try simp only [Act.put, List.setIfInBounds_toArray, List.set_cons_zero, List.set_cons_succ]
            refine wpAnyH_takeL (i := 8) (v := .bool false) rfl (by kernel_rfl) (by kernel_rfl) (by kernel_rfl) (fun _ _ _ h => h) (Or.inl ⟨by rfl, fun W hW => by
              have hq := heq W
              go_simp⟩) hHeld ?_
            try simp only [Act.put, List.setIfInBounds_toArray, List.set_cons_zero, List.set_cons_succ]
            refine wpAnyH_takeL (i := 9) (v := .bool false) rfl (by kernel_rfl) (by kernel_rfl) (by kernel_rfl) (fun _ _ _ h => h) (Or.inl ⟨by rfl, fun W hW => by go_simp⟩) hHeld ?_
            try simp only [Act.put, List.setIfInBounds_toArray, List.set_cons_zero, List.set_cons_succ]
            refine wpAnyH_takeL (i := 10) (v := undef) rfl (by kernel_rfl) (by kernel_rfl) (by kernel_rfl) (fun _ _ _ h => h) (Or.inr ⟨by rfl, rfl⟩) hHeld ?_
            try simp only [Act.put, List.setIfInBounds_toArray, List.set_cons_zero, List.set_cons_succ]
            refine wpAnyH_takeL (i := 11) (v := undef) rfl (by kernel_rfl) (by kernel_rfl) (by kernel_rfl) (fun _ _ _ h => h) (Or.inr ⟨by rfl, rfl⟩) hHeld ?_
            try simp only [Act.put, List.setIfInBounds_toArray, List.set_cons_zero, List.set_cons_succ]
            refine wpAnyH_ready (rs := [12]) (by kernel_rfl) (by simp) ?_
            refine allReadyH_consL rfl fun KK hK => ?_
            rw [if_neg (by rw [show Region.wanted _ _ = false from by rfl]; simp)]
            refine hK.out _ _ hHeld (fun hHeld => ?_)
            clear hK KK
            try simp only [Act.put, List.setIfInBounds_toArray, List.set_cons_zero, List.set_cons_succ]
            refine wpAnyH_takeL (i := 13) (v := .bool false) rfl (by kernel_rfl) (by kernel_rfl) (by kernel_rfl) (fun _ _ _ h => h) (Or.inl ⟨by rfl, fun W hW => by go_simp⟩) hHeld ?_
            try simp only [Act.put, List.setIfInBounds_toArray, List.set_cons_zero, List.set_cons_succ]
            refine wpAnyH_ready (rs := [14]) (by kernel_rfl) (by simp) ?_
            refine allReadyH_consL rfl fun KK hK => ?_
            rw [if_pos (by rfl)]
            go_simp
            refine hK.out _ _ hHeld (fun hHeld => ?_)
            clear hK KK
            try simp only [Act.put, List.setIfInBounds_toArray, List.set_cons_zero, List.set_cons_succ]
            refine wpAnyH_done (by kernel_rfl) ?_ _
            have HSM : True := trivial
            have hb := hHeld
            obtain ⟨w', rfl⟩ : ∃ y : World, y = WW := ⟨_, rfl⟩
            clear hHeld heq HXY
            have HBN := Lib.hid (HBW.out.trans ((hbk2.trans (hb.mono hbk2.size)).mono HBW.out.size))
            clear HBW
            have HBW := HBN
            replace HBK := Lib.hid (HBK.out.below hb HBK.out.lt)
            have hc0 := HBK.out.cell 0
            simp at hc0
            clear hb hbk2 HRG HSM
            go_wp2_with fail
            with_reducible refine (wakes7_any w' (tab_in HT.out HBW.out)).mono ?_
            rintro e wz ⟨rfl, hb⟩
            replace HBW := Lib.hid (HBW.out.trans (hb.mono HBW.out.size))
            clear hb
            go_wp2_with fail
            go_ret
            exact ⟨by kernel_rfl, HBW.out⟩

set_option maxRecDepth 100000 in
theorem contract (H : Type) (enc : TypeId × Value → H) (W : World) (base : Nat) (args : Array Value) (ds gs : List (DataW H)) (before : List MemPlace)
    (hval : ∀ (j : Nat) t v, Tryd.f4.params[j]? = some t → args[j]? = some v → Value.okWide Tryd.prog W .any base t v)
    (hW : DataW.Whole enc Tryd.prog Tryd.f4.params.toList Rows.treePlacesSpec.vars false W args.toList ds gs before) (hL : laidMetH Tryd.prog Rows.treePlacesRow.laid W) :
    Calls Tryd.prog 4 args W fun e W' => ∃ v, e = .returned v ∧ Rows.treePlacesSpec.post enc Tryd.prog Tryd.f4 false true false false W args v W' := by
  have hW' := hW
  obtain ⟨p, q, hA0, hV, rfl, hfz, hnd⟩ := hW
  have hA : DataW.TrodAll enc Tryd.prog W 0 (fun _ => true) true Tryd.f4.params.toList args.toList ds p := hA0
  rw [Tryd.params4] at hA hval
  obtain ⟨v0, v1, v2, d0, d1, d2, p0, p1, p2, rfl, rfl, rfl, h0, h1, h2⟩ := trodAll_three hA
  obtain ⟨rfl, rfl⟩ := trodVars_none hV
  obtain ⟨A0, m0, c0, l0, rfl, hl0, hc0, hm0, hz0, hr0⟩ := open_hashes (hval 0 23 v0 rfl rfl) h0
  obtain ⟨n1, rfl, rfl, rfl, wf1⟩ := open_int Tryd.underlying3 (hval 1 3 v1 rfl rfl) h1
  have b1 := bounds_i64 wf1
  obtain ⟨n2, rfl, rfl, rfl, wf2⟩ := open_int Tryd.underlying3 (hval 2 3 v2 rfl rfl) h2
  have b2 := bounds_i64 wf2
  clear hA0
  refine (walk A0 m0 c0 l0 n1 n2 W hl0 hc0 hz0 hr0 b1.1 b1.2 b2.1 b2.2 (pow10 hL)).mono fun e W' ⟨he, hb⟩ => ?_
  exact ⟨_, he, law_post hW' rfl (by kernel_rfl) rfl (by kernel_rfl) hb⟩

theorem laid_met (os : Os) : laidMet Tryd.prog Rows.treePlacesRow.laid ((laidWorld os).forCall (fun _ _ => 0) ⟨#[], #[.slice none 0 0, .int .i64 0, .int .i64 0], []⟩).memory :=
  laidMet_of_run' 8 (by kernel_rfl) (by kernel_rfl)
theorem reads (os : Os) {H : Type} (enc : TypeId × Value → H) : ∃ places, DataW.whole enc Tryd.prog ((laidWorld os).forCall (fun _ _ => 0) ⟨#[], #[.slice none 0 0, .int .i64 0, .int .i64 0], []⟩).memory Tryd.f4.params.toList Rows.treePlacesSpec.vars false #[Value.slice none 0 0, Value.int .i64 0, Value.int .i64 0].toList 8 = some ([.nil, .lit (.int .i64 0), .lit (.int .i64 0)], [], places) :=
  ⟨[], by kernel_rfl⟩

set_option maxRecDepth 100000 in
theorem lifted (os : Os) (started : os.Started) (H : Type) (enc : TypeId × Value → H) (F : Stop.Interp) :
    ReturnsInHanded {} Tryd.checked os 4 .any ((OpenSpec.ofChange Rows.treePlacesSpec).preRow enc Tryd.prog Tryd.f4 Rows.treePlacesRow.domain false Rows.treePlacesRow.laid) (((OpenSpec.ofChange Rows.treePlacesSpec).at F).post enc Tryd.prog Tryd.f4 false true false false) := by
  obtain ⟨places, hx⟩ := reads os enc
  refine returnsInHanded_of_row (C := Tryd.checked) (s := OpenSpec.ofChange Rows.treePlacesSpec) own started (by kernel_rfl) Tryd.func4
    (witness_row_at (enc := enc) (C := Tryd.checked) false (laidWorld os) #[.slice none 0 0, .int .i64 0, .int .i64 0] rfl (by kernel_rfl) (by kernel_rfl) (by kernel_rfl)
      (OpenSpec.preRow_of_cond 8 hx (by kernel_rfl) (fun k hk => by cases hk) (by kernel_rfl) (laid_met os))) ?_
  intro W base args ds gs before hval hW _ _ _ hL _ _
  exact contract H enc W base args ds gs before hval hW hL

theorem said : Rows.TreePlacesSaid :=
  OpenClaim.holds_of_cond 4 Tryd.f4 rfl rfl rfl rfl rfl rfl rfl ⟨rfl, rfl, rfl, rfl, rfl⟩ rfl rfl rfl rfl rfl (by kernel_rfl) Tryd.func4 (by kernel_rfl)
    (of_decide_eq_true (by kernel_rfl)) (by unfold Func.isWrapper; first | (rw [if_pos (by decide +kernel)]; kernel_rfl) | (rw [if_neg (by decide +kernel)]; exact ⟨rfl, rfl⟩))
    (fun os started H enc _ F => by rw [OpenClaim.pre_eq_preRow]; exact lifted os started H enc F)

theorem plain (f : FuncId) (fn : Func) (hf : Tryd.pinned.checked.prog.funcNamed "aumbry/aumbrylaw07.TreePlaces" = some f) (hfn : Tryd.pinned.checked.prog.funcs[f]? = some fn) :
    false = Tryd.pinned.checked.prog.looks [] ∧ ∀ (j : Nat) t, fn.params[j]? = some t → Tryd.pinned.checked.prog.wantsStandIn t = false := by
  obtain rfl : f = 4 := Option.some.inj ((show Tryd.prog.funcNamed "aumbry/aumbrylaw07.TreePlaces" = some 4 by kernel_rfl).symm.trans hf) |>.symm
  obtain rfl : fn = Tryd.f4 := (Option.some.inj (Tryd.func4.symm.trans hfn)).symm
  refine ⟨by kernel_rfl, fun j t ht => ?_⟩
  exact wants_none (by kernel_rfl) (Array.mem_of_getElem? ht)

/-- The card: the statement holds, its listed tables tied to the program's text. -/
theorem card : Rows.TreePlacesCardSaid :=
  Claim7.holds_tied_plain_at .later [] _ _ _ _ said (fun _ h => by cases h) (by kernel_rfl) (fun _ h => by cases h) treePlaces_row_tie rfl ⟨rfl, rfl⟩ (by kernel_rfl) rfl plain (by kernel_rfl)
end Go.Proofs.YtpfhhbfjemmkaaaDoor.treePlaces
