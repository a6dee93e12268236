/- TreeUnlike: of any two rows of leaves: unlike ones with one root have a break, others have none. For all leaves. -/
import Derived.Test.YtpfhhbfjemmkaaaDoorLaw7
import Derived.Test.YtpfhhbfjemmkaaaDoorPTAll
import Derived.Test.YtpfhhbfjemmkaaaDoorTree7
import Derived.Test.YtpfhhbfjemmkaaaDoorRTMay
namespace Go.Proofs.YtpfhhbfjemmkaaaDoor.treeUnlike
open Go.ChangeShapes Go.WideShapes Go.ChangeAt Go.RowKit

set_option maxRecDepth 100000 in
set_option maxHeartbeats 16000000 in
theorem walk (A : Option Addr) (m c : Nat) (l : List (List UInt8)) (B : Option Addr) (m2 c2 : Nat) (l2 : List (List UInt8)) (t : Bool) (w : World) (hl : l.length = m) (hc : m ≤ c) (hz : ∀ r ∈ l, r.length = 32) (hr : RdH w w.heap.size A l) (hl2 : l2.length = m2) (hc2 : m2 ≤ c2) (hz2 : ∀ r ∈ l2, r.length = 32) (hr2 : RdH w w.heap.size B l2) (htab : Pow10 w.heap.size w) :
    Calls Tryd.prog 10 #[.slice A m c, .slice B m2 c2, .bool t] w fun e w' => e = .returned (.bool true) ∧ Below w.heap.size w w' := by
  obtain ⟨z, ks, hcut, hkz, hz17, hzc, hkl, hkr⟩ := cut7 A m c 17 17 rfl l w hl hc hz hr
  obtain ⟨y2, js2, hcut2, hjy2, hy217, hyc2, hjl2, hjr2⟩ := cut7 B m2 c2 17 17 rfl l2 w hl2 hc2 hz2 hr2
  have HCUT := Lib.hid hcut
  have HCUT2 := Lib.hid hcut2
  have HT := Lib.hid htab
  have HKZ := Lib.hid hkz
  have HKL := Lib.hid hkl
  have HKR := Lib.hid hkr
  have HJ2 := Lib.hid (show js2.length = y2 ∧ (∀ r ∈ js2, r.length = 32) ∧ RdH w w.heap.size B js2 from ⟨hjy2, hjl2, hjr2⟩)
  have HCP := Lib.hid (copyH_any A z c w.heap.size ks w hkz (by omega) hkl hkr)
  clear hcut hcut2 hl hc hz hr hl2 hc2 hz2 hr2 htab hkz hkl hkr hjy2 hjl2 hjr2
  go_enter Tryd.func10, Tryd.ntmps10
  go_wp2_with fail
  with_reducible refine (HCUT.out _).mono ?_
  rintro e wx ⟨rfl, rfl⟩
  go_wp2_with fail
  with_reducible refine (HCUT2.out _).mono ?_
  rintro e wx ⟨rfl, rfl⟩
  go_upto_if 16 with fail
  clear HCUT HCUT2
  go_cut [1] from 17 to 18 (fun v wx => ∃ B1 y d js, v = .slice B1 y d ∧ y ≤ 17 ∧ y ≤ d ∧ Hid (js.length = y) ∧ Hid (∀ r ∈ js, r.length = 32) ∧ Hid (RdH wx wx.heap.size B1 js) ∧ Hid (Below w.heap.size w wx))
  case first =>
    cases t with
    | true =>
      go_wp2_with fail
      with_reducible refine (HCP.out).mono ?_
      rintro e w2 ⟨v2, rfl, hown, hb⟩
      obtain ⟨A2, d2, rfl, hd2, _⟩ := hown.form HKZ.out
      have HV2 := Lib.hid hown.hv.rd
      have HB2 := Lib.hid hb
      clear hown hb
      go_wp2_with fail
      go_meet
      case rel => exact ⟨A2, z, d2, ks, rfl, hz17, hd2, HKZ, HKL, HV2, HB2⟩
    | false =>
      go_wp2_with fail
      go_meet
      case rel => exact ⟨B, y2, c2, js2, rfl, hy217, hyc2, Lib.hid HJ2.out.1, Lib.hid HJ2.out.2.1, Lib.hid HJ2.out.2.2, Lib.hid (Below.refl _ _)⟩
  case rest =>
    obtain ⟨B1, y, d, js, rfl, hy17, hyd, HJY, HJL, HJR, HBW⟩ := hcut
    clear HCP HJ2 hyc2 hy217
    obtain ⟨wo, rfl⟩ : ∃ x : World, x = wc := ⟨_, rfl⟩
    have HKO := Lib.hid (HKR.out.on HBW.out)
    have HBO := HBW
    replace HT := Lib.hid (tab_in HT.out HBW.out)
    obtain ⟨r, hr⟩ : ∃ r, unlV ks js = r := ⟨_, rfl⟩
    have HTOLD := Lib.hid (show Told r by rw [← hr]; exact unl_told HKL.out HJL.out)
    have HIS := Lib.hid (show r.isSome = decide (unlOK ks js) by rw [← hr]; exact unlV_isSome ks js)
    have HU1 := Lib.hid (show Calls Tryd.prog 36 #[.slice A z c, .slice B1 y d] wo (BrkSaid wo r) by
      rw [← hr]
      exact punlike_any A B1 z y c d ks js wo HKZ.out HJY.out (by omega) (by omega) HKL.out HJL.out HKO.out HJR.out HT.out)
    replace HBW := Lib.hid (Below.refl wo.heap.size wo)
    have HU2 := Lib.hid (fun W (h : Below wo.heap.size wo W) => (show Calls Tryd.prog 37 #[.slice A z c, .slice B1 y d] W (BrkSaid W r) from by
      rw [← hr]
      exact runlike7_any A B1 z y c d ks js W HKZ.out HJY.out (by omega) (by omega) HKL.out HJL.out hzc hyd (HKO.out.on h) (HJR.out.on h)))
    obtain ⟨s1, hs1⟩ : ∃ s, (r.getD ([], [])).1 = s := ⟨_, rfl⟩
    obtain ⟨s2, hs2⟩ : ∃ s, (r.getD ([], [])).2 = s := ⟨_, rfl⟩
    obtain ⟨n1, hn1⟩ : ∃ n, s1.length = n := ⟨_, rfl⟩
    obtain ⟨n2, hn2⟩ : ∃ n, s2.length = n := ⟨_, rfl⟩
    obtain ⟨K, hk⟩ : ∃ k, r.isSome = k := ⟨_, rfl⟩
    have HS1 := Lib.hid hs1
    have HS2 := Lib.hid hs2
    have HN1 := Lib.hid hn1
    have HN2 := Lib.hid hn2
    have HK := Lib.hid hk
    have HSM := Lib.hid (show s1.length ≤ 800000 ∧ s2.length ≤ 800000 by
      rw [← hs1, ← hs2]
      exact told_small HTOLD.out)
    have HBR := Lib.hid (fun (h : K = true) => (show isBr (s1, s2) = true from by
      rw [← hs1, ← hs2]
      exact told_br HTOLD.out (hk.trans h)))
    have HKD := Lib.hid (show decide (unlOK ks js) = K by rw [← hk, HIS.out])
    clear hr hs1 hs2 hn1 hn2 hk HTOLD HIS
    go_wp2_with fail
    with_reducible refine (HU1.out).mono ?_
    rintro e w4 ⟨A0, B0, rfl, hA0, hB0, hb⟩
    rw [HS1.out] at hA0
    rw [HS2.out] at hB0
    obtain ⟨X4, x4, rfl, _, _⟩ := id hA0
    obtain ⟨Y4, y4, rfl, _, _⟩ := id hB0
    have HTA := Lib.hid hA0
    have HTB := Lib.hid hB0
    clear hA0 hB0
    rw [HN1.out] at HTA ⊢
    rw [HN2.out] at HTB ⊢
    rw [HK.out]
    replace HBW := Lib.hid (HBW.out.trans (hb.mono HBW.out.size))

    clear hb HU1
    go_upto_region 5 with (with_reducible refine wpList_store_brk rfl (.tmp 7) (.tmp 23) rfl w4.heap.size X4 Y4 n1 n2 x4 y4 rfl rfl (Blk.new _ _ _) ?_)
    generalize hww5 : World.setRow _ _ _ = w5
    have hal : Below w4.heap.size w4 w5 := by
      rw [← hww5]
      exact below_row ((Below.refl _ _).alloc (Nat.le_refl _) _) (by simp) (Nat.le_refl _) _
    have HB7 := Lib.hid (show Blk w5 w4.heap.size #[.slice X4 n1 x4, .slice Y4 n2 y4] 41 by
      rw [← hww5]
      exact (Blk.new _ _ _).row _)
    replace HBW := Lib.hid (HBW.out.trans (hal.mono HBW.out.size))
    replace HTA := Lib.hid (HTA.out.on hal)
    replace HTB := Lib.hid (HTB.out.on hal)
    clear hal hww5
    go_wp2_with fail
    with_reducible refine (HU2.out _ HBW.out).mono ?_
    rintro e w6 ⟨A0, B0, rfl, hA0, hB0, hb⟩
    rw [HS1.out] at hA0
    rw [HS2.out] at hB0
    obtain ⟨X6, x6, rfl, _, _⟩ := id hA0
    obtain ⟨Y6, y6, rfl, _, _⟩ := id hB0
    have HTC := Lib.hid hA0
    have HTD := Lib.hid hB0
    clear hA0 hB0
    rw [HN1.out] at HTC ⊢
    rw [HN2.out] at HTD ⊢
    rw [HK.out]
    replace HB7 := Lib.hid (HB7.out.below hb HB7.out.lt)
    replace HBW := Lib.hid (HBW.out.trans (hb.mono HBW.out.size))
    replace HTA := Lib.hid (HTA.out.on hb)
    replace HTB := Lib.hid (HTB.out.on hb)
    clear hb HU2
    go_upto_region 6 with (with_reducible refine wpList_store_brk rfl (.tmp 9) (.tmp 29) rfl w6.heap.size X6 Y6 n1 n2 x6 y6 rfl rfl (Blk.new _ _ _) ?_)
    generalize hww7 : World.setRow _ _ _ = w7
    have hal : Below w6.heap.size w6 w7 := by
      rw [← hww7]
      exact below_row ((Below.refl _ _).alloc (Nat.le_refl _) _) (by simp) (Nat.le_refl _) _
    have HB9 := Lib.hid (show Blk w7 w6.heap.size #[.slice X6 n1 x6, .slice Y6 n2 y6] 41 by
      rw [← hww7]
      exact (Blk.new _ _ _).row _)
    replace HB7 := Lib.hid (HB7.out.below hal HB7.out.lt)
    replace HBW := Lib.hid (HBW.out.trans (hal.mono HBW.out.size))
    replace HTA := Lib.hid (HTA.out.on hal)
    replace HTB := Lib.hid (HTB.out.on hal)
    replace HTC := Lib.hid (HTC.out.on hal)
    replace HTD := Lib.hid (HTD.out.on hal)
    clear hal hww7
    go_cut [57] from 31 to 57 (fun f wx => f = .bool false ∧ Hid (Below wo.heap.size wo wx))
    case first =>
      clear HKD HS1 HS2 HN1 HN2 HK HKO HBO HJR HKR
      cases K with
      | true =>
        have HSM1 := Lib.hid (same_tv HTA.out HTC.out HSM.out.1)
        have hc70 := HB7.out.cell 0
        have hc71 := HB7.out.cell 1
        simp at hc70 hc71
        have hc90 := HB9.out.cell 0
        have hc91 := HB9.out.cell 1
        simp at hc90 hc91
        go_wp2_with fail
        with_reducible refine (HSM1.out).mono ?_
        rintro e w8 ⟨rfl, hb⟩
        replace HB7 := Lib.hid (HB7.out.below hb HB7.out.lt)
        replace HB9 := Lib.hid (HB9.out.below hb HB9.out.lt)
        replace HBW := Lib.hid (HBW.out.trans (hb.mono HBW.out.size))
        replace HTA := Lib.hid (HTA.out.on hb)
        replace HTB := Lib.hid (HTB.out.on hb)
        replace HTC := Lib.hid (HTC.out.on hb)
        replace HTD := Lib.hid (HTD.out.on hb)
        clear hb HSM1 hc70 hc71 hc90 hc91
        have HSM2 := Lib.hid (same_tv HTB.out HTD.out HSM.out.2)
        have hc70 := HB7.out.cell 0
        have hc71 := HB7.out.cell 1
        simp at hc70 hc71
        have hc90 := HB9.out.cell 0
        have hc91 := HB9.out.cell 1
        simp at hc90 hc91
        go_wp2_with fail
        with_reducible refine (HSM2.out).mono ?_
        rintro e w9 ⟨rfl, hb⟩
        replace HB7 := Lib.hid (HB7.out.below hb HB7.out.lt)
        replace HB9 := Lib.hid (HB9.out.below hb HB9.out.lt)
        replace HBW := Lib.hid (HBW.out.trans (hb.mono HBW.out.size))
        replace HTA := Lib.hid (HTA.out.on hb)
        replace HTB := Lib.hid (HTB.out.on hb)
        replace HTC := Lib.hid (HTC.out.on hb)
        replace HTD := Lib.hid (HTD.out.on hb)
        clear hb HSM2 hc70 hc71 hc90 hc91
        have HIB := Lib.hid (is_br (x := (s1, s2)) HTA.out HTB.out HSM.out.1 HSM.out.2 (HBR.out (by simp)))
        have hc70 := HB7.out.cell 0
        have hc71 := HB7.out.cell 1
        simp at hc70 hc71
        have hc90 := HB9.out.cell 0
        have hc91 := HB9.out.cell 1
        simp at hc90 hc91
        go_wp2_with (refine wpList_load_wb (.tmp 7) rfl w4.heap.size rfl (.slice X4 n1 x4) (.slice Y4 n2 y4) HB7.out ?_ ?_; · rfl)
        with_reducible refine (HIB.out).mono ?_
        rintro e w10 ⟨rfl, hb⟩
        replace HBW := Lib.hid (HBW.out.trans (hb.mono HBW.out.size))
        clear hb HIB
        go_wp2_with fail
        go_meet
        case rel => exact ⟨rfl, HBW⟩
      | false =>
        have HSM1 := Lib.hid (same_tv HTA.out HTC.out HSM.out.1)
        have hc70 := HB7.out.cell 0
        have hc71 := HB7.out.cell 1
        simp at hc70 hc71
        have hc90 := HB9.out.cell 0
        have hc91 := HB9.out.cell 1
        simp at hc90 hc91
        go_wp2_with fail
        with_reducible refine (HSM1.out).mono ?_
        rintro e w8 ⟨rfl, hb⟩
        replace HB7 := Lib.hid (HB7.out.below hb HB7.out.lt)
        replace HB9 := Lib.hid (HB9.out.below hb HB9.out.lt)
        replace HBW := Lib.hid (HBW.out.trans (hb.mono HBW.out.size))
        replace HTA := Lib.hid (HTA.out.on hb)
        replace HTB := Lib.hid (HTB.out.on hb)
        replace HTC := Lib.hid (HTC.out.on hb)
        replace HTD := Lib.hid (HTD.out.on hb)
        clear hb HSM1 hc70 hc71 hc90 hc91
        have HSM2 := Lib.hid (same_tv HTB.out HTD.out HSM.out.2)
        have hc70 := HB7.out.cell 0
        have hc71 := HB7.out.cell 1
        simp at hc70 hc71
        have hc90 := HB9.out.cell 0
        have hc91 := HB9.out.cell 1
        simp at hc90 hc91
        go_wp2_with fail
        with_reducible refine (HSM2.out).mono ?_
        rintro e w9 ⟨rfl, hb⟩
        replace HB7 := Lib.hid (HB7.out.below hb HB7.out.lt)
        replace HB9 := Lib.hid (HB9.out.below hb HB9.out.lt)
        replace HBW := Lib.hid (HBW.out.trans (hb.mono HBW.out.size))
        replace HTA := Lib.hid (HTA.out.on hb)
        replace HTB := Lib.hid (HTB.out.on hb)
        replace HTC := Lib.hid (HTC.out.on hb)
        replace HTD := Lib.hid (HTD.out.on hb)
        clear hb HSM2 hc70 hc71 hc90 hc91
        go_wp2_with fail
        go_meet
        case rel => exact ⟨rfl, HBW⟩
    case rest =>
      clear HBW
      obtain ⟨rfl, HBW⟩ := hcut
      clear HTA HTB HTC HTD HB7 HB9 HSM HBR HS1 HS2 HN1 HN2 HK
      have HKV := Lib.hid ((HKO.out.on HBW.out).hv HKZ.out hzc HKL.out)
      have HJV := Lib.hid ((HJR.out.on HBW.out).hv HJY.out hyd HJL.out)
      by_cases hzy : z = y
      · subst hzy
        by_cases he : ks = js
        · have HKS := Lib.hid (show Calls Tryd.prog 22 #[.slice A z c, .slice B1 z d] wc fun e w' => e = .returned (.bool true) ∧ Below wc.heap.size wc w' by
            have h := ksame7_any HKV.out HJV.out (by rw [HKZ.out]; omega)
            rw [decide_eq_true he] at h
            exact h)
          obtain rfl : K = false := by rw [← HKD.out]; exact decide_eq_false (fun h => h.2.1 he)
          clear HKD HKV HJV he
          go_wp2_with fail
          with_reducible refine (HKS.out).mono ?_
          rintro e wd ⟨rfl, hb⟩
          replace HBW := Lib.hid (HBW.out.trans (hb.mono HBW.out.size))
          clear hb
          go_wp2_with fail
          with_reducible refine (wakes7_any wd (tab_in HT.out HBW.out)).mono ?_
          rintro e wz ⟨rfl, hb⟩
          replace HBW := Lib.hid (HBW.out.trans (hb.mono HBW.out.size))
          clear hb
          go_wp2_with fail
          go_ret
          exact ⟨by kernel_rfl, HBO.out.trans (HBW.out.mono HBO.out.size)⟩
        · have HKS := Lib.hid (show Calls Tryd.prog 22 #[.slice A z c, .slice B1 z d] wc fun e w' => e = .returned (.bool false) ∧ Below wc.heap.size wc w' by
            have h := ksame7_any HKV.out HJV.out (by rw [HKZ.out]; omega)
            rw [decide_eq_false he] at h
            exact h)
          obtain ⟨V1, hV1⟩ : ∃ X, u8A (rootV ks) = X := ⟨_, rfl⟩
          obtain ⟨V2, hV2⟩ : ∃ X, u8A (rootV js) = X := ⟨_, rfl⟩
          have HR1 := Lib.hid (fun W (h : Below wo.heap.size wo W) => (show Calls Tryd.prog 25 #[.slice A z c] W fun e w' => e = .returned (.agg V1) ∧ Below W.heap.size W w' from by
            have h := rroot7_any A z c ks W HKZ.out (by omega) HKL.out (HKO.out.on h)
            rw [← hV1]
            unfold rootV
            rw [HKZ.out]
            exact h))
          have HR2 := Lib.hid (fun W (h : Below wo.heap.size wo W) => (show Calls Tryd.prog 25 #[.slice B1 z d] W fun e w' => e = .returned (.agg V2) ∧ Below W.heap.size W w' from by
            have h := rroot7_any B1 z d js W HJY.out (by omega) HJL.out (HJR.out.on h)
            rw [← hV2]
            unfold rootV
            rw [HJY.out]
            exact h))
          by_cases hv : rootV ks = rootV js
          · have heq := fun W => (show (Op.equalIn 10000 25 (.agg V1) (.agg V2)).run Tryd.prog W = .ok true W by rw [← hV1, ← hV2, run_hash_eq W _ _ (rootV_len HKL.out) (rootV_len HJL.out), decide_eq_true hv])
            obtain rfl : K = true := by rw [← HKD.out]; exact decide_eq_true ⟨by rw [HKZ.out, HJY.out], he, hv⟩
            clear HKD HKV HJV he hv hV1 hV2
            go_wp2_with fail
            with_reducible refine (HKS.out).mono ?_
            rintro e wd ⟨rfl, hb⟩
            replace HBW := Lib.hid (HBW.out.trans (hb.mono HBW.out.size))
            clear hb
            go_wp2_with fail
            with_reducible refine (HR1.out _ HBW.out).mono ?_
            rintro e we ⟨rfl, hb⟩
            replace HBW := Lib.hid (HBW.out.trans (hb.mono HBW.out.size))
            clear hb
            go_wp2_with fail
            with_reducible refine (HR2.out _ HBW.out).mono ?_
            rintro e wf ⟨rfl, hb⟩
            replace HBW := Lib.hid (HBW.out.trans (hb.mono HBW.out.size))
            clear hb
            go_wp2_with fail
            with_reducible refine (wakes7_any wf (tab_in HT.out HBW.out)).mono ?_
            rintro e wz ⟨rfl, hb⟩
            replace HBW := Lib.hid (HBW.out.trans (hb.mono HBW.out.size))
            clear hb
            go_wp2_with fail
            go_ret
            exact ⟨by kernel_rfl, HBO.out.trans (HBW.out.mono HBO.out.size)⟩
          · have heq := fun W => (show (Op.equalIn 10000 25 (.agg V1) (.agg V2)).run Tryd.prog W = .ok false W by rw [← hV1, ← hV2, run_hash_eq W _ _ (rootV_len HKL.out) (rootV_len HJL.out), decide_eq_false hv])
            obtain rfl : K = false := by rw [← HKD.out]; exact decide_eq_false (fun h => hv h.2.2)
            clear HKD HKV HJV he hv hV1 hV2
            go_wp2_with fail
            with_reducible refine (HKS.out).mono ?_
            rintro e wd ⟨rfl, hb⟩
            replace HBW := Lib.hid (HBW.out.trans (hb.mono HBW.out.size))
            clear hb
            go_wp2_with fail
            with_reducible refine (HR1.out _ HBW.out).mono ?_
            rintro e we ⟨rfl, hb⟩
            replace HBW := Lib.hid (HBW.out.trans (hb.mono HBW.out.size))
            clear hb
            go_wp2_with fail
            with_reducible refine (HR2.out _ HBW.out).mono ?_
            rintro e wf ⟨rfl, hb⟩
            replace HBW := Lib.hid (HBW.out.trans (hb.mono HBW.out.size))
            clear hb
            go_wp2_with fail
            with_reducible refine (wakes7_any wf (tab_in HT.out HBW.out)).mono ?_
            rintro e wz ⟨rfl, hb⟩
            replace HBW := Lib.hid (HBW.out.trans (hb.mono HBW.out.size))
            clear hb
            go_wp2_with fail
            go_ret
            exact ⟨by kernel_rfl, HBO.out.trans (HBW.out.mono HBO.out.size)⟩
      · have hzi : ¬ (z : Int) = (y : Int) := by omega
        obtain rfl : K = false := by rw [← HKD.out]; exact decide_eq_false (fun h => hzy (by rw [← HKZ.out, ← HJY.out]; exact h.1))
        clear HKD HKV HJV
        go_wp2_with fail
        with_reducible refine (wakes7_any wc (tab_in HT.out HBW.out)).mono ?_
        rintro e wz ⟨rfl, hb⟩
        replace HBW := Lib.hid (HBW.out.trans (hb.mono HBW.out.size))
        clear hb
        go_wp2_with fail
        go_ret
        exact ⟨by kernel_rfl, HBO.out.trans (HBW.out.mono HBO.out.size)⟩

set_option maxRecDepth 100000 in
theorem contract (H : Type) (enc : TypeId × Value → H) (W : World) (base : Nat) (args : Array Value) (ds gs : List (DataW H)) (before : List MemPlace)
    (hval : ∀ (j : Nat) t v, Tryd.f10.params[j]? = some t → args[j]? = some v → Value.okWide Tryd.prog W .any base t v)
    (hW : DataW.Whole enc Tryd.prog Tryd.f10.params.toList Rows.treeUnlikeSpec.vars false W args.toList ds gs before) (hL : laidMetH Tryd.prog Rows.treeUnlikeRow.laid W) :
    Calls Tryd.prog 10 args W fun e W' => ∃ v, e = .returned v ∧ Rows.treeUnlikeSpec.post enc Tryd.prog Tryd.f10 false true false false W args v W' := by
  have hW' := hW
  obtain ⟨p, q, hA0, hV, rfl, hfz, hnd⟩ := hW
  have hA : DataW.TrodAll enc Tryd.prog W 0 (fun _ => true) true Tryd.f10.params.toList args.toList ds p := hA0
  rw [Tryd.params10] at hA hval
  obtain ⟨v0, v1, v2, d0, d1, d2, p0, p1, p2, rfl, rfl, rfl, h0, h1, h2⟩ := trodAll_three hA
  obtain ⟨rfl, rfl⟩ := trodVars_none hV
  obtain ⟨A0, m0, c0, l0, rfl, hl0, hc0, hm0, hz0, hr0⟩ := open_hashes (hval 0 23 v0 rfl rfl) h0
  obtain ⟨A1, m1, c1, l1, rfl, hl1, hc1, hm1, hz1, hr1⟩ := open_hashes (hval 1 23 v1 rfl rfl) h1
  obtain ⟨t2, rfl, rfl, rfl⟩ := open_bool Tryd.underlying4 (hval 2 4 v2 rfl rfl) h2
  clear hA0
  refine (walk A0 m0 c0 l0 A1 m1 c1 l1 t2 W hl0 hc0 hz0 hr0 hl1 hc1 hz1 hr1 (pow10 hL)).mono fun e W' ⟨he, hb⟩ => ?_
  exact ⟨_, he, law_post hW' rfl (by kernel_rfl) rfl (by kernel_rfl) hb⟩

theorem laid_met (os : Os) : laidMet Tryd.prog Rows.treeUnlikeRow.laid ((laidWorld os).forCall (fun _ _ => 0) ⟨#[], #[.slice none 0 0, .slice none 0 0, .bool false], []⟩).memory :=
  laidMet_of_run' 8 (by kernel_rfl) (by kernel_rfl)
theorem reads (os : Os) {H : Type} (enc : TypeId × Value → H) : ∃ places, DataW.whole enc Tryd.prog ((laidWorld os).forCall (fun _ _ => 0) ⟨#[], #[.slice none 0 0, .slice none 0 0, .bool false], []⟩).memory Tryd.f10.params.toList Rows.treeUnlikeSpec.vars false #[Value.slice none 0 0, Value.slice none 0 0, Value.bool false].toList 8 = some ([.nil, .nil, .lit (.bool false)], [], places) :=
  ⟨[], by kernel_rfl⟩

set_option maxRecDepth 100000 in
theorem lifted (os : Os) (started : os.Started) (H : Type) (enc : TypeId × Value → H) (F : Stop.Interp) :
    ReturnsInHanded {} Tryd.checked os 10 .any ((OpenSpec.ofChange Rows.treeUnlikeSpec).preRow enc Tryd.prog Tryd.f10 Rows.treeUnlikeRow.domain false Rows.treeUnlikeRow.laid) (((OpenSpec.ofChange Rows.treeUnlikeSpec).at F).post enc Tryd.prog Tryd.f10 false true false false) := by
  obtain ⟨places, hx⟩ := reads os enc
  refine returnsInHanded_of_row (C := Tryd.checked) (s := OpenSpec.ofChange Rows.treeUnlikeSpec) own started (by kernel_rfl) Tryd.func10
    (witness_row_at (enc := enc) (C := Tryd.checked) false (laidWorld os) #[.slice none 0 0, .slice none 0 0, .bool false] rfl (by kernel_rfl) (by kernel_rfl) (by kernel_rfl)
      (OpenSpec.preRow_of_cond 8 hx (by kernel_rfl) (fun k hk => by cases hk) (by kernel_rfl) (laid_met os))) ?_
  intro W base args ds gs before hval hW _ _ _ hL _ _
  exact contract H enc W base args ds gs before hval hW hL

theorem said : Rows.TreeUnlikeSaid :=
  OpenClaim.holds_of_cond 10 Tryd.f10 rfl rfl rfl rfl rfl rfl rfl ⟨rfl, rfl, rfl, rfl, rfl⟩ rfl rfl rfl rfl rfl (by kernel_rfl) Tryd.func10 (by kernel_rfl)
    (of_decide_eq_true (by kernel_rfl)) (by unfold Func.isWrapper; first | (rw [if_pos (by decide +kernel)]; kernel_rfl) | (rw [if_neg (by decide +kernel)]; exact ⟨rfl, rfl⟩))
    (fun os started H enc _ F => by rw [OpenClaim.pre_eq_preRow]; exact lifted os started H enc F)

theorem plain (f : FuncId) (fn : Func) (hf : Tryd.pinned.checked.prog.funcNamed "aumbry/aumbrylaw07.TreeUnlike" = some f) (hfn : Tryd.pinned.checked.prog.funcs[f]? = some fn) :
    false = Tryd.pinned.checked.prog.looks [] ∧ ∀ (j : Nat) t, fn.params[j]? = some t → Tryd.pinned.checked.prog.wantsStandIn t = false := by
  obtain rfl : f = 10 := Option.some.inj ((show Tryd.prog.funcNamed "aumbry/aumbrylaw07.TreeUnlike" = some 10 by kernel_rfl).symm.trans hf) |>.symm
  obtain rfl : fn = Tryd.f10 := (Option.some.inj (Tryd.func10.symm.trans hfn)).symm
  refine ⟨by kernel_rfl, fun j t ht => ?_⟩
  exact wants_none (by kernel_rfl) (Array.mem_of_getElem? ht)

/-- The card: the statement holds, its listed tables tied to the program's text. -/
theorem card : Rows.TreeUnlikeCardSaid :=
  Claim7.holds_tied_plain_at .later [] _ _ _ _ said (fun _ h => by cases h) (by kernel_rfl) (fun _ h => by cases h) treeUnlike_row_tie rfl ⟨rfl, rfl⟩ (by kernel_rfl) rfl plain (by kernel_rfl)
end Go.Proofs.YtpfhhbfjemmkaaaDoor.treeUnlike
