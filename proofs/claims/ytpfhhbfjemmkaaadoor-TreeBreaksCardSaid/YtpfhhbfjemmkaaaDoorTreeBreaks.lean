/- TreeBreaks: of any two ways: a break, or that there is none; a break is one. For all numbers, hashes and proofs. -/
import Derived.Test.YtpfhhbfjemmkaaaDoorLaw7
import Derived.Test.YtpfhhbfjemmkaaaDoorSix
import Derived.Test.YtpfhhbfjemmkaaaDoorPTAll
import Derived.Test.YtpfhhbfjemmkaaaDoorTree7
import Derived.Test.YtpfhhbfjemmkaaaDoorRTMay
namespace Go.Proofs.YtpfhhbfjemmkaaaDoor.treeBreaks
open Go.ChangeShapes Go.WideShapes Go.ChangeAt Go.RowKit

set_option maxRecDepth 100000 in
set_option maxHeartbeats 16000000 in
theorem walk (n i : Int) (a b : List UInt8) (A : Option Addr) (m c : Nat) (l : List (List UInt8)) (B : Option Addr) (m2 c2 : Nat) (l2 : List (List UInt8)) (w : World) (ha : a.length = 32) (hbl : b.length = 32) (hl : l.length = m) (hc : m ≤ c) (hz : ∀ r ∈ l, r.length = 32) (hr : RdH w w.heap.size A l) (hl2 : l2.length = m2) (hc2 : m2 ≤ c2) (hz2 : ∀ r ∈ l2, r.length = 32) (hr2 : RdH w w.heap.size B l2) (htab : Pow10 w.heap.size w) :
    Calls Tryd.prog 9 #[.int .i64 n, .int .i64 i, .agg (u8A a), .agg (u8A b), .slice A m c, .slice B m2 c2] w fun e w' => e = .returned (.bool true) ∧ Below w.heap.size w w' := by
  obtain ⟨z, ps, hcut, hpz, hz8, hzc, hpl, hpr⟩ := cut7 A m c 8 8 rfl l w hl hc hz hr
  obtain ⟨y, qs, hcut2, hqy, hy8, hyc, hql, hqr⟩ := cut7 B m2 c2 8 8 rfl l2 w hl2 hc2 hz2 hr2
  have HCUT := Lib.hid hcut
  have HCUT2 := Lib.hid hcut2
  have HT := Lib.hid htab
  have HPZ := Lib.hid hpz
  have HPL := Lib.hid hpl
  have HPR := Lib.hid hpr
  have HQY := Lib.hid hqy
  have HQL := Lib.hid hql
  have HQR := Lib.hid hqr
  have HAL := Lib.hid ha
  have HBL := Lib.hid hbl
  obtain ⟨X, hX⟩ : ∃ X, u8A a = X := ⟨_, rfl⟩
  have HEX := Lib.hid hX
  obtain ⟨Y, hY⟩ : ∃ X, u8A b = X := ⟨_, rfl⟩
  have HEY := Lib.hid hY
  have HZX := Lib.hid (show X.size = 32 by rw [← hX, u8A_size]; exact ha)
  have HIX := Lib.hid (show (Tryd.prog.info? 25).map (·.size) = some X.size by rw [HZX.out]; kernel_rfl)
  have HOX := Lib.hid (show X.all (·.oneCell') = true by rw [← hX]; exact u8A_one _)
  have HZY := Lib.hid (show Y.size = 32 by rw [← hY, u8A_size]; exact hbl)
  have HIY := Lib.hid (show (Tryd.prog.info? 25).map (·.size) = some Y.size by rw [HZY.out]; kernel_rfl)
  have HOY := Lib.hid (show Y.all (·.oneCell') = true by rw [← hY]; exact u8A_one _)
  rw [hX, hY]
  clear hX hY hcut hcut2 hl hc hz hr hl2 hc2 hz2 hr2 htab hpz hpl hpr hqy hql hqr ha hbl
  go_enter Tryd.func9, Tryd.ntmps9
  go_upto_region 1 with fail
  generalize hw3 : World.alloc _ _ = wo
  obtain ⟨g8, hg8⟩ : ∃ g, w.heap.size = g := ⟨_, rfl⟩
  obtain ⟨g9, hg9⟩ : ∃ g, w.heap.size + 1 = g := ⟨_, rfl⟩
  have hf : Blk wo g8 X 25 ∧ Blk wo g9 Y 25 ∧ Below w.heap.size w wo := by
    have e1 : (w.alloc (.cells X 25)).heap.size = w.heap.size + 1 := by simp
    rw [← hw3, ← hg8, ← hg9]
    refine ⟨(Blk.new w _ _).alloc _, ?_, ((Below.refl _ _).alloc (Nat.le_refl _) _).alloc (by simp) _⟩
    rw [← e1]; exact Blk.new _ _ _
  have HB8 := Lib.hid hf.1
  have HB9 := Lib.hid hf.2.1
  have HBO := Lib.hid hf.2.2
  have HBW := Lib.hid (Below.refl wo.heap.size wo)
  replace HPR := Lib.hid (HPR.out.on hf.2.2)
  replace HQR := Lib.hid (HQR.out.on hf.2.2)
  replace HT := Lib.hid (tab_in HT.out hf.2.2)
  clear hf hw3
  rw [hg9, hg8]
  clear hg8 hg9
  obtain ⟨r, hr⟩ : ∃ r, brkV n i a b ps qs = r := ⟨_, rfl⟩
  have HTOLD := Lib.hid (show Told r by rw [← hr]; exact brk_told HAL.out HBL.out HPL.out HQL.out)
  have HIS := Lib.hid (show r.isSome = decide (brkOK n i a b ps qs) by rw [← hr]; exact brkV_isSome n i a b ps qs)
  have HU1 := Lib.hid (show Calls Tryd.prog 21 #[.int .i64 n, .int .i64 i, .agg X, .agg Y, .slice A z c, .slice B y c2] wo (BrkSaid wo r) by
    rw [← hr, ← HEX.out, ← HEY.out]
    exact pbreak_any n i a b A B z y c c2 ps qs wo HPZ.out HQY.out (by omega) (by omega) HAL.out HBL.out HPL.out HQL.out HPR.out HQR.out HT.out)
  have HU2 := Lib.hid (fun W (h : Below wo.heap.size wo W) => (show Calls Tryd.prog 33 #[.int .i64 n, .int .i64 i, .agg X, .agg Y, .slice A z c, .slice B y c2] W (BrkSaid W r) from by
    rw [← hr, ← HEX.out, ← HEY.out]
    exact rbreak7_any n i a b A B z y c c2 ps qs W HPZ.out HQY.out (by omega) (by omega) HAL.out HBL.out HPL.out HQL.out hzc hyc (HPR.out.on h) (HQR.out.on h)))
  obtain ⟨s1, hs1⟩ : ∃ s, (r.getD ([], [])).1 = s := ⟨_, rfl⟩
  obtain ⟨s2, hs2⟩ : ∃ s, (r.getD ([], [])).2 = s := ⟨_, rfl⟩
  obtain ⟨n1, hn1⟩ : ∃ n, s1.length = n := ⟨_, rfl⟩
  obtain ⟨n2, hn2⟩ : ∃ n, s2.length = n := ⟨_, rfl⟩
  obtain ⟨K, hk⟩ : ∃ k, r.isSome = k := ⟨_, rfl⟩
  have HS1 := Lib.hid hs1
  have HS2 := Lib.hid hs2
  have HN1 := Lib.hid hn1
  have HN2 := Lib.hid hn2
  have HK := Lib.hid hk
  have HSM := Lib.hid (show s1.length ≤ 800000 ∧ s2.length ≤ 800000 by
    rw [← hs1, ← hs2]
    exact told_small HTOLD.out)
  have HBR := Lib.hid (fun (h : K = true) => (show isBr (s1, s2) = true from by
    rw [← hs1, ← hs2]
    exact told_br HTOLD.out (hk.trans h)))
  have HKD := Lib.hid (show decide (brkOK n i a b ps qs) = K by rw [← hk, HIS.out])
  clear hr hs1 hs2 hn1 hn2 hk HTOLD HIS
  go_wp2_with fail
  with_reducible refine (HCUT.out _).mono ?_
  rintro e wx ⟨rfl, rfl⟩
  go_wp2_with fail
  with_reducible refine (HCUT2.out _).mono ?_
  rintro e wx ⟨rfl, rfl⟩
  clear HCUT HCUT2
  go_wp2_with (first
      | (refine wpList_load_w (.tmp 8) rfl g8 rfl X HB8.out HZX.out ?_ ?_; · rfl)
      | (refine wpList_load_w (.tmp 9) rfl g9 rfl Y HB9.out HZY.out ?_ ?_; · rfl))
  with_reducible refine (HU1.out).mono ?_
  rintro e w4 ⟨A0, B0, rfl, hA0, hB0, hb⟩
  rw [HS1.out] at hA0
  rw [HS2.out] at hB0
  obtain ⟨X4, x4, rfl, _, _⟩ := id hA0
  obtain ⟨Y4, y4, rfl, _, _⟩ := id hB0
  have HTA := Lib.hid hA0
  have HTB := Lib.hid hB0
  clear hA0 hB0
  rw [HN1.out] at HTA ⊢
  rw [HN2.out] at HTB ⊢
  rw [HK.out]
  replace HB8 := Lib.hid (HB8.out.below hb HB8.out.lt)
  replace HB9 := Lib.hid (HB9.out.below hb HB9.out.lt)
  replace HBW := Lib.hid (HBW.out.trans (hb.mono HBW.out.size))

  clear hb HU1
  go_upto_region 3 with (with_reducible refine wpList_store_brk rfl (.tmp 13) (.tmp 34) rfl w4.heap.size X4 Y4 n1 n2 x4 y4 rfl rfl (Blk.new _ _ _) ?_)
  generalize hww5 : World.setRow _ _ _ = w5
  have hal : Below w4.heap.size w4 w5 := by
    rw [← hww5]
    exact below_row ((Below.refl _ _).alloc (Nat.le_refl _) _) (by simp) (Nat.le_refl _) _
  have HB13 := Lib.hid (show Blk w5 w4.heap.size #[.slice X4 n1 x4, .slice Y4 n2 y4] 41 by
    rw [← hww5]
    exact (Blk.new _ _ _).row _)
  replace HB8 := Lib.hid (HB8.out.below hal HB8.out.lt)
  replace HB9 := Lib.hid (HB9.out.below hal HB9.out.lt)
  replace HBW := Lib.hid (HBW.out.trans (hal.mono HBW.out.size))
  replace HTA := Lib.hid (HTA.out.on hal)
  replace HTB := Lib.hid (HTB.out.on hal)
  clear hal hww5
  go_wp2_with (first
      | (refine wpList_load_w (.tmp 8) rfl g8 rfl X HB8.out HZX.out ?_ ?_; · rfl)
      | (refine wpList_load_w (.tmp 9) rfl g9 rfl Y HB9.out HZY.out ?_ ?_; · rfl))
  with_reducible refine (HU2.out _ HBW.out).mono ?_
  rintro e w6 ⟨A0, B0, rfl, hA0, hB0, hb⟩
  rw [HS1.out] at hA0
  rw [HS2.out] at hB0
  obtain ⟨X6, x6, rfl, _, _⟩ := id hA0
  obtain ⟨Y6, y6, rfl, _, _⟩ := id hB0
  have HTC := Lib.hid hA0
  have HTD := Lib.hid hB0
  clear hA0 hB0
  rw [HN1.out] at HTC ⊢
  rw [HN2.out] at HTD ⊢
  rw [HK.out]
  replace HB8 := Lib.hid (HB8.out.below hb HB8.out.lt)
  replace HB9 := Lib.hid (HB9.out.below hb HB9.out.lt)
  replace HB13 := Lib.hid (HB13.out.below hb HB13.out.lt)
  replace HBW := Lib.hid (HBW.out.trans (hb.mono HBW.out.size))
  replace HTA := Lib.hid (HTA.out.on hb)
  replace HTB := Lib.hid (HTB.out.on hb)
  clear hb HU2
  go_upto_region 4 with (with_reducible refine wpList_store_brk rfl (.tmp 15) (.tmp 44) rfl w6.heap.size X6 Y6 n1 n2 x6 y6 rfl rfl (Blk.new _ _ _) ?_)
  generalize hww7 : World.setRow _ _ _ = w7
  have hal : Below w6.heap.size w6 w7 := by
    rw [← hww7]
    exact below_row ((Below.refl _ _).alloc (Nat.le_refl _) _) (by simp) (Nat.le_refl _) _
  have HB15 := Lib.hid (show Blk w7 w6.heap.size #[.slice X6 n1 x6, .slice Y6 n2 y6] 41 by
    rw [← hww7]
    exact (Blk.new _ _ _).row _)
  replace HB8 := Lib.hid (HB8.out.below hal HB8.out.lt)
  replace HB9 := Lib.hid (HB9.out.below hal HB9.out.lt)
  replace HB13 := Lib.hid (HB13.out.below hal HB13.out.lt)
  replace HBW := Lib.hid (HBW.out.trans (hal.mono HBW.out.size))
  replace HTA := Lib.hid (HTA.out.on hal)
  replace HTB := Lib.hid (HTB.out.on hal)
  replace HTC := Lib.hid (HTC.out.on hal)
  replace HTD := Lib.hid (HTD.out.on hal)
  clear hal hww7
  go_cut [72] from 46 to 72 (fun f wx => f = .bool false ∧ Hid (Blk wx g8 X 25) ∧ Hid (Blk wx g9 Y 25) ∧ Hid (Below wo.heap.size wo wx))
  case first =>
    clear HKD HS1 HS2 HN1 HN2 HK HBO HPR HQR
    cases K with
    | true =>
      have HSM1 := Lib.hid (same_tv HTA.out HTC.out HSM.out.1)
      have hc70 := HB13.out.cell 0
      have hc71 := HB13.out.cell 1
      simp at hc70 hc71
      have hc90 := HB15.out.cell 0
      have hc91 := HB15.out.cell 1
      simp at hc90 hc91
      go_wp2_with fail
      with_reducible refine (HSM1.out).mono ?_
      rintro e w8 ⟨rfl, hb⟩
      replace HB8 := Lib.hid (HB8.out.below hb HB8.out.lt)
      replace HB9 := Lib.hid (HB9.out.below hb HB9.out.lt)
      replace HB13 := Lib.hid (HB13.out.below hb HB13.out.lt)
      replace HB15 := Lib.hid (HB15.out.below hb HB15.out.lt)
      replace HBW := Lib.hid (HBW.out.trans (hb.mono HBW.out.size))
      replace HTA := Lib.hid (HTA.out.on hb)
      replace HTB := Lib.hid (HTB.out.on hb)
      replace HTC := Lib.hid (HTC.out.on hb)
      replace HTD := Lib.hid (HTD.out.on hb)
      clear hb HSM1 hc70 hc71 hc90 hc91
      have HSM2 := Lib.hid (same_tv HTB.out HTD.out HSM.out.2)
      have hc70 := HB13.out.cell 0
      have hc71 := HB13.out.cell 1
      simp at hc70 hc71
      have hc90 := HB15.out.cell 0
      have hc91 := HB15.out.cell 1
      simp at hc90 hc91
      go_wp2_with fail
      with_reducible refine (HSM2.out).mono ?_
      rintro e w9 ⟨rfl, hb⟩
      replace HB8 := Lib.hid (HB8.out.below hb HB8.out.lt)
      replace HB9 := Lib.hid (HB9.out.below hb HB9.out.lt)
      replace HB13 := Lib.hid (HB13.out.below hb HB13.out.lt)
      replace HB15 := Lib.hid (HB15.out.below hb HB15.out.lt)
      replace HBW := Lib.hid (HBW.out.trans (hb.mono HBW.out.size))
      replace HTA := Lib.hid (HTA.out.on hb)
      replace HTB := Lib.hid (HTB.out.on hb)
      replace HTC := Lib.hid (HTC.out.on hb)
      replace HTD := Lib.hid (HTD.out.on hb)
      clear hb HSM2 hc70 hc71 hc90 hc91
      have HIB := Lib.hid (is_br (x := (s1, s2)) HTA.out HTB.out HSM.out.1 HSM.out.2 (HBR.out (by simp)))
      have hc70 := HB13.out.cell 0
      have hc71 := HB13.out.cell 1
      simp at hc70 hc71
      have hc90 := HB15.out.cell 0
      have hc91 := HB15.out.cell 1
      simp at hc90 hc91
      go_wp2_with (refine wpList_load_wb (.tmp 13) rfl w4.heap.size rfl (.slice X4 n1 x4) (.slice Y4 n2 y4) HB13.out ?_ ?_; · rfl)
      with_reducible refine (HIB.out).mono ?_
      rintro e w10 ⟨rfl, hb⟩
      replace HB8 := Lib.hid (HB8.out.below hb HB8.out.lt)
      replace HB9 := Lib.hid (HB9.out.below hb HB9.out.lt)
      replace HBW := Lib.hid (HBW.out.trans (hb.mono HBW.out.size))
      clear hb HIB
      go_wp2_with fail
      go_meet
      case rel => exact ⟨rfl, HB8, HB9, HBW⟩
    | false =>
      have HSM1 := Lib.hid (same_tv HTA.out HTC.out HSM.out.1)
      have hc70 := HB13.out.cell 0
      have hc71 := HB13.out.cell 1
      simp at hc70 hc71
      have hc90 := HB15.out.cell 0
      have hc91 := HB15.out.cell 1
      simp at hc90 hc91
      go_wp2_with fail
      with_reducible refine (HSM1.out).mono ?_
      rintro e w8 ⟨rfl, hb⟩
      replace HB8 := Lib.hid (HB8.out.below hb HB8.out.lt)
      replace HB9 := Lib.hid (HB9.out.below hb HB9.out.lt)
      replace HB13 := Lib.hid (HB13.out.below hb HB13.out.lt)
      replace HB15 := Lib.hid (HB15.out.below hb HB15.out.lt)
      replace HBW := Lib.hid (HBW.out.trans (hb.mono HBW.out.size))
      replace HTA := Lib.hid (HTA.out.on hb)
      replace HTB := Lib.hid (HTB.out.on hb)
      replace HTC := Lib.hid (HTC.out.on hb)
      replace HTD := Lib.hid (HTD.out.on hb)
      clear hb HSM1 hc70 hc71 hc90 hc91
      have HSM2 := Lib.hid (same_tv HTB.out HTD.out HSM.out.2)
      have hc70 := HB13.out.cell 0
      have hc71 := HB13.out.cell 1
      simp at hc70 hc71
      have hc90 := HB15.out.cell 0
      have hc91 := HB15.out.cell 1
      simp at hc90 hc91
      go_wp2_with fail
      with_reducible refine (HSM2.out).mono ?_
      rintro e w9 ⟨rfl, hb⟩
      replace HB8 := Lib.hid (HB8.out.below hb HB8.out.lt)
      replace HB9 := Lib.hid (HB9.out.below hb HB9.out.lt)
      replace HB13 := Lib.hid (HB13.out.below hb HB13.out.lt)
      replace HB15 := Lib.hid (HB15.out.below hb HB15.out.lt)
      replace HBW := Lib.hid (HBW.out.trans (hb.mono HBW.out.size))
      replace HTA := Lib.hid (HTA.out.on hb)
      replace HTB := Lib.hid (HTB.out.on hb)
      replace HTC := Lib.hid (HTC.out.on hb)
      replace HTD := Lib.hid (HTD.out.on hb)
      clear hb HSM2 hc70 hc71 hc90 hc91
      go_wp2_with fail
      go_meet
      case rel => exact ⟨rfl, HB8, HB9, HBW⟩
  case rest =>
    clear HBW HB8 HB9
    obtain ⟨rfl, HB8, HB9, HBW⟩ := hcut
    clear HTA HTB HTC HTD HB13 HB15 HSM HBR HS1 HS2 HN1 HN2 HK
    obtain ⟨V, hV⟩ : ∃ X, u8A (climbV n i a ps) = X := ⟨_, rfl⟩
    have HEV := Lib.hid hV
    obtain ⟨U, hU⟩ : ∃ X, u8A (climbV n i b qs) = X := ⟨_, rfl⟩
    have HEU := Lib.hid hU
    obtain ⟨K1, hK1⟩ : ∃ X, decide (climbOK n i ps.length) = X := ⟨_, rfl⟩
    have HEK1 := Lib.hid hK1
    obtain ⟨K2, hK2⟩ : ∃ X, decide (climbOK n i qs.length) = X := ⟨_, rfl⟩
    have HEK2 := Lib.hid hK2
    have hvl : (climbV n i a ps).length = 32 := climbV_len HAL.out ps
    have hul : (climbV n i b qs).length = 32 := climbV_len HBL.out qs
    have HZV := Lib.hid (show V.size = 32 by rw [← hV, u8A_size]; exact hvl)
    have HIV := Lib.hid (show (Tryd.prog.info? 25).map (·.size) = some V.size by rw [HZV.out]; kernel_rfl)
    have HOV := Lib.hid (show V.all (·.oneCell') = true by rw [← hV]; exact u8A_one _)
    have HZU := Lib.hid (show U.size = 32 by rw [← hU, u8A_size]; exact hul)
    have HIU := Lib.hid (show (Tryd.prog.info? 25).map (·.size) = some U.size by rw [HZU.out]; kernel_rfl)
    have HOU := Lib.hid (show U.all (·.oneCell') = true by rw [← hU]; exact u8A_one _)
    have HC1 := Lib.hid (fun W (h : Below wo.heap.size wo W) => (show Calls Tryd.prog 30 #[.int .i64 n, .int .i64 i, .agg X, .slice A z c] W fun e w' => e = .returned (.tuple #[.agg V, .bool K1]) ∧ Below W.heap.size W w' from by
      rw [← HEX.out, ← hV, ← hK1]
      exact rclimb7_any n i a A z c ps W HPZ.out (by omega) HAL.out HPL.out (HPR.out.on h)))
    have HC2 := Lib.hid (fun W (h : Below wo.heap.size wo W) => (show Calls Tryd.prog 30 #[.int .i64 n, .int .i64 i, .agg Y, .slice B y c2] W fun e w' => e = .returned (.tuple #[.agg U, .bool K2]) ∧ Below W.heap.size W w' from by
      rw [← HEY.out, ← hU, ← hK2]
      exact rclimb7_any n i b B y c2 qs W HQY.out (by omega) HBL.out HQL.out (HQR.out.on h)))
    have HVU := Lib.hid (fun W => (show (Op.equalIn 10000 25 (.agg V) (.agg U)).run Tryd.prog W = .ok (decide (climbV n i a ps = climbV n i b qs)) W by rw [← hV, ← hU, run_hash_eq W _ _ hvl hul]))
    have HXY := Lib.hid (fun W => (show (Op.equalIn 10000 25 (.agg X) (.agg Y)).run Tryd.prog W = .ok (decide (a = b)) W by rw [← HEX.out, ← HEY.out, run_hash_eq W _ _ HAL.out HBL.out]))
    clear hV hU hK1 hK2 hvl hul
    go_wp2_with (first
        | (refine wpList_load_w (.tmp 8) rfl g8 rfl X HB8.out HZX.out ?_ ?_; · rfl)
        | (refine wpList_load_w (.tmp 9) rfl g9 rfl Y HB9.out HZY.out ?_ ?_; · rfl))
    with_reducible refine (HC1.out wc HBW.out).mono ?_
    rintro e wd ⟨rfl, hb⟩
    replace HB8 := Lib.hid (HB8.out.below hb HB8.out.lt)
    replace HB9 := Lib.hid (HB9.out.below hb HB9.out.lt)
    replace HBW := Lib.hid (HBW.out.trans (hb.mono HBW.out.size))
    clear hb
    go_upto_region 7 with (with_reducible refine wpList_store_blk rfl 25 (.tmp 17) (.tmp 79) rfl wd.heap.size V rfl rfl 25 _ (Blk.new _ _ _) (by rw [HZV.out]; kernel_rfl) (by rw [HZV.out]; kernel_rfl) HOV.out ?_)
    generalize hwwe : World.setRow _ _ _ = we
    have hal : Below wd.heap.size wd we := by
      rw [← hwwe]
      exact below_row ((Below.refl _ _).alloc (Nat.le_refl _) _) (by simp) (Nat.le_refl _) _
    have HB17 := Lib.hid (show Blk we wd.heap.size V 25 by
      rw [← hwwe]
      exact (Blk.new _ _ _).row _)
    replace HB8 := Lib.hid (HB8.out.below hal HB8.out.lt)
    replace HB9 := Lib.hid (HB9.out.below hal HB9.out.lt)
    replace HBW := Lib.hid (HBW.out.trans (hal.mono HBW.out.size))
    clear hal hwwe
    go_wp2_with (first
        | (refine wpList_load_w (.tmp 8) rfl g8 rfl X HB8.out HZX.out ?_ ?_; · rfl)
        | (refine wpList_load_w (.tmp 9) rfl g9 rfl Y HB9.out HZY.out ?_ ?_; · rfl))
    with_reducible refine (HC2.out we HBW.out).mono ?_
    rintro e wf ⟨rfl, hb⟩
    replace HB8 := Lib.hid (HB8.out.below hb HB8.out.lt)
    replace HB9 := Lib.hid (HB9.out.below hb HB9.out.lt)
    replace HB17 := Lib.hid (HB17.out.below hb HB17.out.lt)
    replace HBW := Lib.hid (HBW.out.trans (hb.mono HBW.out.size))
    clear hb
    go_upto_region 8 with (with_reducible refine wpList_store_blk rfl 25 (.tmp 19) (.tmp 87) rfl wf.heap.size U rfl rfl 25 _ (Blk.new _ _ _) (by rw [HZU.out]; kernel_rfl) (by rw [HZU.out]; kernel_rfl) HOU.out ?_)
    generalize hwwg : World.setRow _ _ _ = wg
    have hal : Below wf.heap.size wf wg := by
      rw [← hwwg]
      exact below_row ((Below.refl _ _).alloc (Nat.le_refl _) _) (by simp) (Nat.le_refl _) _
    have HB19 := Lib.hid (show Blk wg wf.heap.size U 25 by
      rw [← hwwg]
      exact (Blk.new _ _ _).row _)
    replace HB8 := Lib.hid (HB8.out.below hal HB8.out.lt)
    replace HB9 := Lib.hid (HB9.out.below hal HB9.out.lt)
    replace HB17 := Lib.hid (HB17.out.below hal HB17.out.lt)
    replace HBW := Lib.hid (HBW.out.trans (hal.mono HBW.out.size))
    clear hal hwwg
    clear HC1 HC2
    have HKS0 := Lib.hid (show Calls Tryd.prog 22 #[.slice A z c, .slice B y c2] wg fun e w' => e = .returned (.bool (decide (ps = qs))) ∧ Below wg.heap.size wg w' from
      ksame7_any ((HPR.out.on HBW.out).hv HPZ.out hzc HPL.out) ((HQR.out.on HBW.out).hv HQY.out hyc HQL.out) (by rw [HPZ.out]; omega))
    clear HPR HQR
    cases K1 with
    | false =>
      obtain rfl : K = false := by rw [← HKD.out]; exact decide_eq_false (fun h => of_decide_eq_false HEK1.out h.1)
      go_wp2_with fail
      with_reducible refine (wakes7_any wg (tab_in HT.out HBW.out)).mono ?_
      rintro e wz ⟨rfl, hb⟩
      replace HBW := Lib.hid (HBW.out.trans (hb.mono HBW.out.size))
      clear hb
      go_wp2_with fail
      go_ret
      exact ⟨by kernel_rfl, HBO.out.trans (HBW.out.mono HBO.out.size)⟩
    | true =>
      have k1 := of_decide_eq_true HEK1.out
      cases K2 with
      | false =>
        obtain rfl : K = false := by rw [← HKD.out]; exact decide_eq_false (fun h => of_decide_eq_false HEK2.out h.2.1)
        clear k1
        go_wp2_with fail
        with_reducible refine (wakes7_any wg (tab_in HT.out HBW.out)).mono ?_
        rintro e wz ⟨rfl, hb⟩
        replace HBW := Lib.hid (HBW.out.trans (hb.mono HBW.out.size))
        clear hb
        go_wp2_with fail
        go_ret
        exact ⟨by kernel_rfl, HBO.out.trans (HBW.out.mono HBO.out.size)⟩
      | true =>
        have k2 := of_decide_eq_true HEK2.out
        by_cases hv : climbV n i a ps = climbV n i b qs
        · have heq := fun W => (HVU.out W).trans (by rw [decide_eq_true hv])
          by_cases hab : a = b
          · have heq2 := fun W => (HXY.out W).trans (by rw [decide_eq_true hab])
            by_cases hpq : ps = qs
            · have HKS := Lib.hid (show Calls Tryd.prog 22 #[.slice A z c, .slice B y c2] wg fun e w' => e = .returned (.bool true) ∧ Below wg.heap.size wg w' by
                have h := HKS0.out
                rw [decide_eq_true hpq] at h
                exact h)
              obtain rfl : K = false := by rw [← HKD.out]; exact decide_eq_false (fun h => h.2.2.2 ⟨hab, hpq⟩)
              clear k1 k2 hv hab hpq HKS0 HKD HVU HXY
              go_wp2_with (first
                  | (refine wpList_load_w (.tmp 8) rfl g8 rfl X HB8.out HZX.out ?_ ?_; · rfl)
                  | (refine wpList_load_w (.tmp 9) rfl g9 rfl Y HB9.out HZY.out ?_ ?_; · rfl)
                  | (refine wpList_load_w (.tmp 17) rfl wd.heap.size rfl V HB17.out HZV.out ?_ ?_; · rfl)
                  | (refine wpList_load_w (.tmp 19) rfl wf.heap.size rfl U HB19.out HZU.out ?_ ?_; · rfl))
              with_reducible refine (HKS.out).mono ?_
              rintro e wh ⟨rfl, hb⟩
              replace HBW := Lib.hid (HBW.out.trans (hb.mono HBW.out.size))
              clear hb
              go_wp2_with fail
              with_reducible refine (wakes7_any wh (tab_in HT.out HBW.out)).mono ?_
              rintro e wz ⟨rfl, hb⟩
              replace HBW := Lib.hid (HBW.out.trans (hb.mono HBW.out.size))
              clear hb
              go_wp2_with fail
              go_ret
              exact ⟨by kernel_rfl, HBO.out.trans (HBW.out.mono HBO.out.size)⟩
            · have HKS := Lib.hid (show Calls Tryd.prog 22 #[.slice A z c, .slice B y c2] wg fun e w' => e = .returned (.bool false) ∧ Below wg.heap.size wg w' by
                have h := HKS0.out
                rw [decide_eq_false hpq] at h
                exact h)
              obtain rfl : K = true := by rw [← HKD.out]; exact decide_eq_true ⟨k1, k2, hv, fun h => hpq h.2⟩
              clear k1 k2 hv hab hpq HKS0 HKD HVU HXY
              go_wp2_with (first
                  | (refine wpList_load_w (.tmp 8) rfl g8 rfl X HB8.out HZX.out ?_ ?_; · rfl)
                  | (refine wpList_load_w (.tmp 9) rfl g9 rfl Y HB9.out HZY.out ?_ ?_; · rfl)
                  | (refine wpList_load_w (.tmp 17) rfl wd.heap.size rfl V HB17.out HZV.out ?_ ?_; · rfl)
                  | (refine wpList_load_w (.tmp 19) rfl wf.heap.size rfl U HB19.out HZU.out ?_ ?_; · rfl))
              with_reducible refine (HKS.out).mono ?_
              rintro e wh ⟨rfl, hb⟩
              replace HBW := Lib.hid (HBW.out.trans (hb.mono HBW.out.size))
              clear hb
              go_wp2_with fail
              with_reducible refine (wakes7_any wh (tab_in HT.out HBW.out)).mono ?_
              rintro e wz ⟨rfl, hb⟩
              replace HBW := Lib.hid (HBW.out.trans (hb.mono HBW.out.size))
              clear hb
              go_wp2_with fail
              go_ret
              exact ⟨by kernel_rfl, HBO.out.trans (HBW.out.mono HBO.out.size)⟩
          · have heq2 := fun W => (HXY.out W).trans (by rw [decide_eq_false hab])
            obtain rfl : K = true := by rw [← HKD.out]; exact decide_eq_true ⟨k1, k2, hv, fun h => hab h.1⟩
            clear k1 k2 hv hab HKS0 HKD HVU HXY
            go_wp2_with (first
                | (refine wpList_load_w (.tmp 8) rfl g8 rfl X HB8.out HZX.out ?_ ?_; · rfl)
                | (refine wpList_load_w (.tmp 9) rfl g9 rfl Y HB9.out HZY.out ?_ ?_; · rfl)
                | (refine wpList_load_w (.tmp 17) rfl wd.heap.size rfl V HB17.out HZV.out ?_ ?_; · rfl)
                | (refine wpList_load_w (.tmp 19) rfl wf.heap.size rfl U HB19.out HZU.out ?_ ?_; · rfl))
            with_reducible refine (wakes7_any wg (tab_in HT.out HBW.out)).mono ?_
            rintro e wz ⟨rfl, hb⟩
            replace HBW := Lib.hid (HBW.out.trans (hb.mono HBW.out.size))
            clear hb
            go_wp2_with fail
            go_ret
            exact ⟨by kernel_rfl, HBO.out.trans (HBW.out.mono HBO.out.size)⟩
        · have heq := fun W => (HVU.out W).trans (by rw [decide_eq_false hv])
          obtain rfl : K = false := by rw [← HKD.out]; exact decide_eq_false (fun h => hv h.2.2.1)
          clear k1 k2 hv HKS0 HKD HVU HXY
          refine wp_region_lit ?_
          refine wpList_val (.bool true) (by rfl) (by go_simp) ?_
          simp only [Act.put, List.setIfInBounds_toArray, List.set_cons_zero, List.set_cons_succ]
          refine wpList_val (.bool true) (by rfl) (by go_simp) ?_
          simp only [Act.put, List.setIfInBounds_toArray, List.set_cons_zero, List.set_cons_succ]
          refine wpList_val (.bool true) (by rfl) (by go_simp) ?_
          simp only [Act.put, List.setIfInBounds_toArray, List.set_cons_zero, List.set_cons_succ]
          refine wpList_val (.bool true) (by rfl) (by go_simp) ?_
          simp only [Act.put, List.setIfInBounds_toArray, List.set_cons_zero, List.set_cons_succ]
          refine wpList_val (.bool true) (by rfl) (by go_simp) ?_
          simp only [Act.put, List.setIfInBounds_toArray, List.set_cons_zero, List.set_cons_succ]
          refine wpList_load_w (.tmp 17) rfl wd.heap.size rfl V HB17.out HZV.out ?_ ?_
          · rfl
          simp only [Act.put, List.setIfInBounds_toArray, List.set_cons_zero, List.set_cons_succ]
          refine wpList_load_w (.tmp 19) rfl wf.heap.size rfl U HB19.out HZU.out ?_ ?_
          · rfl
          simp only [Act.put, List.setIfInBounds_toArray, List.set_cons_zero, List.set_cons_succ]
          go_wp2_with fail
          with_reducible refine (wakes7_any wg (tab_in HT.out HBW.out)).mono ?_
          rintro e wz ⟨rfl, hb⟩
          replace HBW := Lib.hid (HBW.out.trans (hb.mono HBW.out.size))
          clear hb
          go_wp2_with fail
          go_ret
          exact ⟨by kernel_rfl, HBO.out.trans (HBW.out.mono HBO.out.size)⟩

set_option maxRecDepth 100000 in
theorem contract (H : Type) (enc : TypeId × Value → H) (W : World) (base : Nat) (args : Array Value) (ds gs : List (DataW H)) (before : List MemPlace)
    (hval : ∀ (j : Nat) t v, Tryd.f9.params[j]? = some t → args[j]? = some v → Value.okWide Tryd.prog W .any base t v)
    (hW : DataW.Whole enc Tryd.prog Tryd.f9.params.toList Rows.treeBreaksSpec.vars false W args.toList ds gs before) (hL : laidMetH Tryd.prog Rows.treeBreaksRow.laid W) :
    Calls Tryd.prog 9 args W fun e W' => ∃ v, e = .returned v ∧ Rows.treeBreaksSpec.post enc Tryd.prog Tryd.f9 false true false false W args v W' := by
  have hW' := hW
  obtain ⟨p, q, hA0, hV, rfl, hfz, hnd⟩ := hW
  have hA : DataW.TrodAll enc Tryd.prog W 0 (fun _ => true) true Tryd.f9.params.toList args.toList ds p := hA0
  rw [Tryd.params9] at hA hval
  obtain ⟨v0, v1, v2, v3, v4, v5, d0, d1, d2, d3, d4, d5, p0, p1, p2, p3, p4, p5, rfl, rfl, rfl, h0, h1, h2, h3, h4, h5⟩ := trodAll_six hA
  obtain ⟨rfl, rfl⟩ := trodVars_none hV
  obtain ⟨n0, rfl, rfl, rfl, wf0⟩ := open_int Tryd.underlying3 (hval 0 3 v0 rfl rfl) h0
  have b0 := bounds_i64 wf0
  obtain ⟨n1, rfl, rfl, rfl, wf1⟩ := open_int Tryd.underlying3 (hval 1 3 v1 rfl rfl) h1
  have b1 := bounds_i64 wf1
  obtain ⟨k2, rfl, hk2⟩ := open_array Tryd.underlying25 (by kernel_rfl) (hval 2 25 v2 rfl rfl) h2
  obtain ⟨k3, rfl, hk3⟩ := open_array Tryd.underlying25 (by kernel_rfl) (hval 3 25 v3 rfl rfl) h3
  obtain ⟨A4, m4, c4, l4, rfl, hl4, hc4, hm4, hz4, hr4⟩ := open_hashes (hval 4 23 v4 rfl rfl) h4
  obtain ⟨A5, m5, c5, l5, rfl, hl5, hc5, hm5, hz5, hr5⟩ := open_hashes (hval 5 23 v5 rfl rfl) h5
  clear hA0
  refine (walk n0 n1 k2 k3 A4 m4 c4 l4 A5 m5 c5 l5 W hk2 hk3 hl4 hc4 hz4 hr4 hl5 hc5 hz5 hr5 (pow10 hL)).mono fun e W' ⟨he, hb⟩ => ?_
  exact ⟨_, he, law_post hW' rfl (by kernel_rfl) rfl (by kernel_rfl) hb⟩

theorem laid_met (os : Os) : laidMet Tryd.prog Rows.treeBreaksRow.laid ((laidWorld os).forCall (fun _ _ => 0) ⟨#[], #[.int .i64 0, .int .i64 0, .agg #[.int .u8 0, .int .u8 0, .int .u8 0, .int .u8 0, .int .u8 0, .int .u8 0, .int .u8 0, .int .u8 0, .int .u8 0, .int .u8 0, .int .u8 0, .int .u8 0, .int .u8 0, .int .u8 0, .int .u8 0, .int .u8 0, .int .u8 0, .int .u8 0, .int .u8 0, .int .u8 0, .int .u8 0, .int .u8 0, .int .u8 0, .int .u8 0, .int .u8 0, .int .u8 0, .int .u8 0, .int .u8 0, .int .u8 0, .int .u8 0, .int .u8 0, .int .u8 0], .agg #[.int .u8 0, .int .u8 0, .int .u8 0, .int .u8 0, .int .u8 0, .int .u8 0, .int .u8 0, .int .u8 0, .int .u8 0, .int .u8 0, .int .u8 0, .int .u8 0, .int .u8 0, .int .u8 0, .int .u8 0, .int .u8 0, .int .u8 0, .int .u8 0, .int .u8 0, .int .u8 0, .int .u8 0, .int .u8 0, .int .u8 0, .int .u8 0, .int .u8 0, .int .u8 0, .int .u8 0, .int .u8 0, .int .u8 0, .int .u8 0, .int .u8 0, .int .u8 0], .slice none 0 0, .slice none 0 0], []⟩).memory :=
  laidMet_of_run' 8 (by kernel_rfl) (by kernel_rfl)
theorem reads (os : Os) {H : Type} (enc : TypeId × Value → H) : ∃ places, DataW.whole enc Tryd.prog ((laidWorld os).forCall (fun _ _ => 0) ⟨#[], #[.int .i64 0, .int .i64 0, .agg #[.int .u8 0, .int .u8 0, .int .u8 0, .int .u8 0, .int .u8 0, .int .u8 0, .int .u8 0, .int .u8 0, .int .u8 0, .int .u8 0, .int .u8 0, .int .u8 0, .int .u8 0, .int .u8 0, .int .u8 0, .int .u8 0, .int .u8 0, .int .u8 0, .int .u8 0, .int .u8 0, .int .u8 0, .int .u8 0, .int .u8 0, .int .u8 0, .int .u8 0, .int .u8 0, .int .u8 0, .int .u8 0, .int .u8 0, .int .u8 0, .int .u8 0, .int .u8 0], .agg #[.int .u8 0, .int .u8 0, .int .u8 0, .int .u8 0, .int .u8 0, .int .u8 0, .int .u8 0, .int .u8 0, .int .u8 0, .int .u8 0, .int .u8 0, .int .u8 0, .int .u8 0, .int .u8 0, .int .u8 0, .int .u8 0, .int .u8 0, .int .u8 0, .int .u8 0, .int .u8 0, .int .u8 0, .int .u8 0, .int .u8 0, .int .u8 0, .int .u8 0, .int .u8 0, .int .u8 0, .int .u8 0, .int .u8 0, .int .u8 0, .int .u8 0, .int .u8 0], .slice none 0 0, .slice none 0 0], []⟩).memory Tryd.f9.params.toList Rows.treeBreaksSpec.vars false #[Value.int .i64 0, Value.int .i64 0, Value.agg #[.int .u8 0, .int .u8 0, .int .u8 0, .int .u8 0, .int .u8 0, .int .u8 0, .int .u8 0, .int .u8 0, .int .u8 0, .int .u8 0, .int .u8 0, .int .u8 0, .int .u8 0, .int .u8 0, .int .u8 0, .int .u8 0, .int .u8 0, .int .u8 0, .int .u8 0, .int .u8 0, .int .u8 0, .int .u8 0, .int .u8 0, .int .u8 0, .int .u8 0, .int .u8 0, .int .u8 0, .int .u8 0, .int .u8 0, .int .u8 0, .int .u8 0, .int .u8 0], Value.agg #[.int .u8 0, .int .u8 0, .int .u8 0, .int .u8 0, .int .u8 0, .int .u8 0, .int .u8 0, .int .u8 0, .int .u8 0, .int .u8 0, .int .u8 0, .int .u8 0, .int .u8 0, .int .u8 0, .int .u8 0, .int .u8 0, .int .u8 0, .int .u8 0, .int .u8 0, .int .u8 0, .int .u8 0, .int .u8 0, .int .u8 0, .int .u8 0, .int .u8 0, .int .u8 0, .int .u8 0, .int .u8 0, .int .u8 0, .int .u8 0, .int .u8 0, .int .u8 0], Value.slice none 0 0, Value.slice none 0 0].toList 8 = some ([.lit (.int .i64 0), .lit (.int .i64 0), .agg [.lit (.int .u8 0), .lit (.int .u8 0), .lit (.int .u8 0), .lit (.int .u8 0), .lit (.int .u8 0), .lit (.int .u8 0), .lit (.int .u8 0), .lit (.int .u8 0), .lit (.int .u8 0), .lit (.int .u8 0), .lit (.int .u8 0), .lit (.int .u8 0), .lit (.int .u8 0), .lit (.int .u8 0), .lit (.int .u8 0), .lit (.int .u8 0), .lit (.int .u8 0), .lit (.int .u8 0), .lit (.int .u8 0), .lit (.int .u8 0), .lit (.int .u8 0), .lit (.int .u8 0), .lit (.int .u8 0), .lit (.int .u8 0), .lit (.int .u8 0), .lit (.int .u8 0), .lit (.int .u8 0), .lit (.int .u8 0), .lit (.int .u8 0), .lit (.int .u8 0), .lit (.int .u8 0), .lit (.int .u8 0)], .agg [.lit (.int .u8 0), .lit (.int .u8 0), .lit (.int .u8 0), .lit (.int .u8 0), .lit (.int .u8 0), .lit (.int .u8 0), .lit (.int .u8 0), .lit (.int .u8 0), .lit (.int .u8 0), .lit (.int .u8 0), .lit (.int .u8 0), .lit (.int .u8 0), .lit (.int .u8 0), .lit (.int .u8 0), .lit (.int .u8 0), .lit (.int .u8 0), .lit (.int .u8 0), .lit (.int .u8 0), .lit (.int .u8 0), .lit (.int .u8 0), .lit (.int .u8 0), .lit (.int .u8 0), .lit (.int .u8 0), .lit (.int .u8 0), .lit (.int .u8 0), .lit (.int .u8 0), .lit (.int .u8 0), .lit (.int .u8 0), .lit (.int .u8 0), .lit (.int .u8 0), .lit (.int .u8 0), .lit (.int .u8 0)], .nil, .nil], [], places) :=
  ⟨[], by kernel_rfl⟩

set_option maxRecDepth 100000 in
theorem lifted (os : Os) (started : os.Started) (H : Type) (enc : TypeId × Value → H) (F : Stop.Interp) :
    ReturnsInHanded {} Tryd.checked os 9 .any ((OpenSpec.ofChange Rows.treeBreaksSpec).preRow enc Tryd.prog Tryd.f9 Rows.treeBreaksRow.domain false Rows.treeBreaksRow.laid) (((OpenSpec.ofChange Rows.treeBreaksSpec).at F).post enc Tryd.prog Tryd.f9 false true false false) := by
  obtain ⟨places, hx⟩ := reads os enc
  refine returnsInHanded_of_row (C := Tryd.checked) (s := OpenSpec.ofChange Rows.treeBreaksSpec) own started (by kernel_rfl) Tryd.func9
    (witness_row_at (enc := enc) (C := Tryd.checked) false (laidWorld os) #[.int .i64 0, .int .i64 0, .agg #[.int .u8 0, .int .u8 0, .int .u8 0, .int .u8 0, .int .u8 0, .int .u8 0, .int .u8 0, .int .u8 0, .int .u8 0, .int .u8 0, .int .u8 0, .int .u8 0, .int .u8 0, .int .u8 0, .int .u8 0, .int .u8 0, .int .u8 0, .int .u8 0, .int .u8 0, .int .u8 0, .int .u8 0, .int .u8 0, .int .u8 0, .int .u8 0, .int .u8 0, .int .u8 0, .int .u8 0, .int .u8 0, .int .u8 0, .int .u8 0, .int .u8 0, .int .u8 0], .agg #[.int .u8 0, .int .u8 0, .int .u8 0, .int .u8 0, .int .u8 0, .int .u8 0, .int .u8 0, .int .u8 0, .int .u8 0, .int .u8 0, .int .u8 0, .int .u8 0, .int .u8 0, .int .u8 0, .int .u8 0, .int .u8 0, .int .u8 0, .int .u8 0, .int .u8 0, .int .u8 0, .int .u8 0, .int .u8 0, .int .u8 0, .int .u8 0, .int .u8 0, .int .u8 0, .int .u8 0, .int .u8 0, .int .u8 0, .int .u8 0, .int .u8 0, .int .u8 0], .slice none 0 0, .slice none 0 0] rfl (by kernel_rfl) (by kernel_rfl) (by kernel_rfl)
      (OpenSpec.preRow_of_cond 8 hx (by kernel_rfl) (fun k hk => by cases hk) (by kernel_rfl) (laid_met os))) ?_
  intro W base args ds gs before hval hW _ _ _ hL _ _
  exact contract H enc W base args ds gs before hval hW hL

theorem said : Rows.TreeBreaksSaid :=
  OpenClaim.holds_of_cond 9 Tryd.f9 rfl rfl rfl rfl rfl rfl rfl ⟨rfl, rfl, rfl, rfl, rfl⟩ rfl rfl rfl rfl rfl (by kernel_rfl) Tryd.func9 (by kernel_rfl)
    (of_decide_eq_true (by kernel_rfl)) (by unfold Func.isWrapper; first | (rw [if_pos (by decide +kernel)]; kernel_rfl) | (rw [if_neg (by decide +kernel)]; exact ⟨rfl, rfl⟩))
    (fun os started H enc _ F => by rw [OpenClaim.pre_eq_preRow]; exact lifted os started H enc F)

theorem plain (f : FuncId) (fn : Func) (hf : Tryd.pinned.checked.prog.funcNamed "aumbry/aumbrylaw07.TreeBreaks" = some f) (hfn : Tryd.pinned.checked.prog.funcs[f]? = some fn) :
    false = Tryd.pinned.checked.prog.looks [] ∧ ∀ (j : Nat) t, fn.params[j]? = some t → Tryd.pinned.checked.prog.wantsStandIn t = false := by
  obtain rfl : f = 9 := Option.some.inj ((show Tryd.prog.funcNamed "aumbry/aumbrylaw07.TreeBreaks" = some 9 by kernel_rfl).symm.trans hf) |>.symm
  obtain rfl : fn = Tryd.f9 := (Option.some.inj (Tryd.func9.symm.trans hfn)).symm
  refine ⟨by kernel_rfl, fun j t ht => ?_⟩
  exact wants_none (by kernel_rfl) (Array.mem_of_getElem? ht)

/-- The card: the statement holds, its listed tables tied to the program's text. -/
theorem card : Rows.TreeBreaksCardSaid :=
  Claim7.holds_tied_plain_at .later [] _ _ _ _ said (fun _ h => by cases h) (by kernel_rfl) (fun _ h => by cases h) treeBreaks_row_tie rfl ⟨rfl, rfl⟩ (by kernel_rfl) rfl plain (by kernel_rfl)
end Go.Proofs.YtpfhhbfjemmkaaaDoor.treeBreaks
