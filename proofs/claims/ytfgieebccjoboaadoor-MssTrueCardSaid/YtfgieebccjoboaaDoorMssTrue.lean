/- MssTrue: what was signed has nothing to be explained; under another print it is not right. For all seeds, heights, leaves and messages. -/
import Derived.Test.YtfgieebccjoboaaDoorLaw
import Derived.Test.YtfgieebccjoboaaDoorSix
import Derived.Test.YtfgieebccjoboaaDoorLaw9
import Derived.Test.YtfgieebccjoboaaDoorMssTr
import Derived.Test.YtfgieebccjoboaaDoorMpX
import Derived.Test.YtfgieebccjoboaaDoorMssS
import Derived.Test.YtfgieebccjoboaaDoorHashD
namespace Go.Proofs.YtfgieebccjoboaaDoor.mssTrue
open Go.ChangeShapes Go.WideShapes Go.ChangeAt Go.RowKit

set_option maxRecDepth 100000 in
set_option maxHeartbeats 16000000 in
theorem walk (sd sd2 : List UInt8) (height leaf : Int) (A4 : Option Addr) (n4 c4 : Nat) (m4 : List UInt8) (w : World) (hs : sd.length = 16) (hs2 : sd2.length = 16) (heightl : -9223372036854775808 ≤ height) (heighth : height ≤ 9223372036854775807) (leafl : -9223372036854775808 ≤ leaf) (leafh : leaf ≤ 9223372036854775807) (hn4 : m4.length = n4) (hc4 : n4 ≤ c4) (_hcm4 : c4 ≤ maxLen) (hr4 : Rd w w.heap.size A4 m4) (htab : Pow10 w.heap.size w) :
    Calls Tryd.prog 3 #[.agg (u8A sd), .agg (u8A sd2), .int .i64 height, .int .i64 leaf, .slice A4 n4 c4] w fun e w' => e = .returned (.bool true) ∧ Below w.heap.size w w' := by
  obtain ⟨p, hp, hpn⟩ : ∃ p : Nat, withinI height 3 = (p : Int) ∧ (p : Int) < 3 := by
    have := withinI_range height 3 (by omega)
    exact ⟨(withinI height 3).toNat, by omega, by omega⟩
  have HWI := Lib.hid (fun W => (show Calls Tryd.prog 11 #[.int .i64 height, .int .i64 3] W fun e w' => e = .returned (.int .i64 (p : Int)) ∧ W = w' from by rw [← hp]; exact within_any height 3 W (by omega) (by omega) (by omega)))
  obtain ⟨M, hM⟩ : ∃ M, min n4 30 = M := ⟨_, rfl⟩
  have HC4 := Lib.hid (fun W => (show Calls Tryd.prog 12 #[.slice A4 n4 c4, .int .i64 30] W fun e W' => e = .returned (.slice A4 M c4) ∧ W = W' from by
    rw [← hM]
    exact cut_any A4 n4 c4 30 W hc4))
  have hMk : M ≤ 30 := by omega
  have hMc : M ≤ c4 := by omega
  obtain ⟨bl, hbl⟩ : ∃ x, m4.take 30 = x := ⟨_, rfl⟩
  have hbln : bl.length = M := by rw [← hbl, List.length_take, hn4]; omega
  have hblr : Rd w w.heap.size A4 bl := by rw [← hbl]; exact hr4.take 30
  have HTAB := Lib.hid htab
  obtain ⟨X, hX⟩ : ∃ x, u8A sd = x := ⟨_, rfl⟩
  have HEX := Lib.hid hX
  have HZX := Lib.hid (show X.size = 16 by rw [← hX, u8A_size]; exact hs)
  have HOX := Lib.hid (show X.all (·.oneCell') = true by rw [← hX]; exact u8A_one _)
  obtain ⟨Y, hY⟩ : ∃ x, u8A sd2 = x := ⟨_, rfl⟩
  have HEY := Lib.hid hY
  have HZY := Lib.hid (show Y.size = 16 by rw [← hY, u8A_size]; exact hs2)
  have HOY := Lib.hid (show Y.all (·.oneCell') = true by rw [← hY]; exact u8A_one _)
  have hp4 : p ≤ 4 := by omega
  obtain ⟨Z, hZ⟩ : ∃ x, u8A (printH (p : Int) (keyRoot sd p)) = x := ⟨_, rfl⟩
  have HEZ := Lib.hid hZ
  have HZZ := Lib.hid (show Z.size = 32 by rw [← hZ, u8A_size]; exact printH_len _ _)
  have HOZ := Lib.hid (show Z.all (·.oneCell') = true by rw [← hZ]; exact u8A_one _)
  obtain ⟨Z2, hZ2⟩ : ∃ x, u8A (printH (p : Int) (keyRoot sd2 p)) = x := ⟨_, rfl⟩
  have HEZ2 := Lib.hid hZ2
  have HZZ2 := Lib.hid (show Z2.size = 32 by rw [← hZ2, u8A_size]; exact printH_len _ _)
  have HOZ2 := Lib.hid (show Z2.all (·.oneCell') = true by rw [← hZ2]; exact u8A_one _)
  obtain ⟨N, hN⟩ : ∃ N, 2 ^ p = N := ⟨_, rfl⟩
  have hN16 : N ≤ 16 := by rw [← hN]; exact Nat.pow_le_pow_right (n := 2) (by omega) (by omega)
  have hN1 : 1 ≤ N := by rw [← hN]; exact Nat.pos_of_ne_zero (by simp)
  have hp1 : (2 : Int) ^ p = (N : Int) := by rw [← hN]; simp
  obtain ⟨i, hi, hin⟩ : ∃ i : Nat, withinI leaf (N : Int) = (i : Int) ∧ (i : Int) < (N : Int) := by
    have := withinI_range leaf (N : Int) (by omega)
    exact ⟨(withinI leaf (N : Int)).toNat, by omega, by omega⟩
  have HWL := Lib.hid (fun W => (show Calls Tryd.prog 11 #[.int .i64 leaf, .int .i64 (N : Int)] W fun e w' => e = .returned (.int .i64 (i : Int)) ∧ W = w' from by rw [← hi]; exact within_any leaf (N : Int) W (by omega) (by omega) (by omega)))
  obtain ⟨FZ, hFZ⟩ : ∃ x, forge0 = x := ⟨_, rfl⟩
  have HEFZ := Lib.hid hFZ
  have HZFZ := Lib.hid (show FZ.size = 38 by rw [← hFZ]; exact forge0_size)
  have HOFZ := Lib.hid (show FZ.all (·.oneCell') = true by rw [← hFZ]; exact forgeA_one _ _ _ _ _ _ _ _ _ _ _)
  have HLFZ := Lib.hid (show FZ[2]? = some (.bool false) by rw [← hFZ]; rfl)
  have hiN : i < N := by omega
  have hcn : cntN (p : Int) = N := by rw [cntN_nat hp4, hN]
  obtain ⟨q, hq⟩ : ∃ q, 1 + M = q := ⟨_, rfl⟩
  have hq1 : 1 ≤ q := by omega
  have hq2 : q ≤ 31 := by omega
  obtain ⟨bm, hbm⟩ : ∃ x, (1 : UInt8) :: bl = x := ⟨_, rfl⟩
  have HBM := Lib.hid hbm
  have HML := Lib.hid (show bm.length = q by rw [← hbm, List.length_cons, hbln]; omega)
  obtain ⟨sg, hsg⟩ : ∃ x, atL (signF sd (i : Int) (digH (msgH bm))) 67 = x := ⟨_, rfl⟩
  obtain ⟨pv, hpv⟩ : ∃ x, proofV (pubsL sd N) i = x := ⟨_, rfl⟩
  have hpl : pv.length = p := by rw [← hpv, ← hN]; exact proofV_len9 sd p i
  have hsl : sg.length = 67 := by rw [← hsg]; exact atL_len _ _
  have HLF := Lib.hid (And.intro hsl hpl)
  have HVO := Lib.hid (show ∀ fp, verP fp bm ⟨(p : Int), (i : Int), sg, pv⟩ ↔ printH (p : Int) (keyRoot sd p) = fp by
    rw [← hsg, ← hpv, ← hN]
    exact ver_own sd bm hp4 (by rw [hN]; exact hiN))
  have HMG := Lib.hid (show msgV (oneL N i bm) (p : Int) (i : Int) = bm by
    rw [msgV_in (by rw [hcn]; omega)]
    unfold signedV
    rw [if_neg (by omega), Int.toNat_natCast, oneL_at bm hiN])
  have HPR := Lib.hid (fun W (hW : Below w.heap.size w W) => (show Calls Tryd.prog 13 #[.agg X, .int .i64 (p : Int)] W fun e w' => e = .returned (.tuple #[.agg Z, .int .i64 0]) ∧ Below W.heap.size W w' from by
    rw [← hX, ← hZ]
    exact pprint9_yes sd p W hs hp4 (tab_on htab hW hW.size)))
  have HPR2 := Lib.hid (fun W (hW : Below w.heap.size w W) => (show Calls Tryd.prog 13 #[.agg Y, .int .i64 (p : Int)] W fun e w' => e = .returned (.tuple #[.agg Z2, .int .i64 0]) ∧ Below W.heap.size W w' from by
    rw [← hY, ← hZ2]
    exact pprint9_yes sd2 p W hs2 hp4 (tab_on htab hW hW.size)))
  have HSI := Lib.hid (fun A c W (hW : Below w.heap.size w W) (hc : q ≤ c) (hcm : c ≤ maxLen) (hr : Rd W W.heap.size A bm) => (show Calls Tryd.prog 14 #[.agg X, .int .i64 (p : Int), .int .i64 (i : Int), .slice A q c] W fun e w' => ∃ V cv P cp, e = .returned (.tuple #[.agg (sigA (p : Int) (i : Int) V P 67 cv p cp), .int .i64 0]) ∧ HV w' (.slice V 67 cv) sg ∧ HV w' (.slice P p cp) pv ∧ Below W.heap.size W w' from by
    have h := psig9_yes sd (p : Int) i A q c bm W (by rw [hcn]; exact hiN) hs HML.out (by omega) hc hcm hr (tab_on htab hW hW.size)
    rw [hcn, hpv, hsg, hpl, hX] at h
    refine h.mono ?_
    rintro e w' ⟨V, cv, P, cp, he, h1, h2, hb⟩
    exact ⟨V, cv, P, cp, he, h1.hv, h2.hv, hb⟩))
  have HEXP := Lib.hid (fun R A c V P cv cp W (hW : Below w.heap.size w W) (hrr : RdR W W.heap.size R (oneL N i bm)) (hc : q ≤ c) (hcm : c ≤ maxLen) (hr : Rd W W.heap.size A bm) (hv : HV W (.slice V 67 cv) sg) (hp : HV W (.slice P p cp) pv) => (show Calls Tryd.prog 16 #[.agg X, .int .i64 (p : Int), .slice R N N, .slice A q c, .agg (sigA (p : Int) (i : Int) V P 67 cv p cp)] W fun e w' => e = .returned (.tuple #[.agg FZ, .bool false]) ∧ Below W.heap.size W w' from by
    rw [← hX, ← hFZ]
    exact pexplain9_no sd p R N N (oneL N i bm) A q c bm ⟨(p : Int), (i : Int), sg, pv⟩ V P 67 cv p cp W hs hp4 (oneL_len _ _ _) (oneL_short (by rw [HML.out]; omega)) hrr HML.out (by omega) hc hcm hr hv hsl hp hpl (by omega) (tab_on htab hW hW.size) (.inr ⟨by rw [HMG.out]; intro h; have := HML.out; rw [h] at this; simp at this; omega, HMG.out⟩)))
  have HKQ := Lib.hid (fun W => (show (Op.equalIn 10000 23 (.agg X) (.agg Y)).run Tryd.prog W = .ok (decide (sd = sd2)) W by rw [← hX, ← hY, run_key_eq W sd sd2 hs hs2]))
  have HZQ := Lib.hid (fun W => (show (Op.equalIn 10000 29 (.agg Z) (.agg Z2)).run Tryd.prog W = .ok (decide (printH (p : Int) (keyRoot sd p) = printH (p : Int) (keyRoot sd2 p))) W by rw [← hZ, ← hZ2, run_hash_eq W _ _ (printH_len _ _) (printH_len _ _)]))
  have HVE := Lib.hid (fun A c V P cv cp W (hW : Below w.heap.size w W) (hc : q ≤ c) (hcm : c ≤ maxLen) (hr : Rd W W.heap.size A bm) (hv : HV W (.slice V 67 cv) sg) (hp : HV W (.slice P p cp) pv) => (show Calls Tryd.prog 15 #[.agg Z, .slice A q c, .agg (sigA (p : Int) (i : Int) V P 67 cv p cp)] W fun e w' => e = .returned (.bool true) ∧ Below W.heap.size W w' from by
    have h := pverify9_any (printH (p : Int) (keyRoot sd p)) A q c bm ⟨(p : Int), (i : Int), sg, pv⟩ V P 67 cv p cp W HML.out (by omega) hc hcm hr hv hsl hp hpl (by omega) (tab_on htab hW hW.size) (printH_len _ _)
    rw [decide_eq_true ((HVO.out _).2 rfl), hZ] at h
    exact h))
  have HVE2 := Lib.hid (fun A c V P cv cp W (hW : Below w.heap.size w W) (hc : q ≤ c) (hcm : c ≤ maxLen) (hr : Rd W W.heap.size A bm) (hv : HV W (.slice V 67 cv) sg) (hp : HV W (.slice P p cp) pv) => (show Calls Tryd.prog 15 #[.agg Z2, .slice A q c, .agg (sigA (p : Int) (i : Int) V P 67 cv p cp)] W fun e w' => e = .returned (.bool (decide (printH (p : Int) (keyRoot sd p) = printH (p : Int) (keyRoot sd2 p)))) ∧ Below W.heap.size W w' from by
    have h := pverify9_any (printH (p : Int) (keyRoot sd2 p)) A q c bm ⟨(p : Int), (i : Int), sg, pv⟩ V P 67 cv p cp W HML.out (by omega) hc hcm hr hv hsl hp hpl (by omega) (tab_on htab hW hW.size) (printH_len _ _)
    rw [show decide (verP (printH (p : Int) (keyRoot sd2 p)) bm ⟨(p : Int), (i : Int), sg, pv⟩) = decide (printH (p : Int) (keyRoot sd p) = printH (p : Int) (keyRoot sd2 p)) from decide_eq_decide.2 (HVO.out _), hZ2] at h
    exact h))
  have HKZ := Lib.hid (show sd = sd2 → printH (p : Int) (keyRoot sd p) = printH (p : Int) (keyRoot sd2 p) from fun h => by rw [h])
  rw [hX, hY]
  obtain ⟨bz, hbz⟩ : ∃ b, decide (printH (p : Int) (keyRoot sd p) = printH (p : Int) (keyRoot sd2 p)) = b := ⟨_, rfl⟩
  have HK0 := Lib.hid (show bz = false → decide (sd = sd2) = false from fun h => by
    rw [h] at hbz
    exact decide_eq_false fun h2 => absurd (HKZ.out h2) (of_decide_eq_false hbz))
  rw [hbz] at HVE2 HZQ
  clear hX hY hZ hZ2 hFZ htab hp hN hsg hpv hpl hsl hcn hbl hM hn4 hr4 hbm hbz HKZ HVO HMG
  go_enter Tryd.func3, Tryd.ntmps3
  go_upto_region 1 with fail
  generalize hw1 : World.alloc _ _ = w3
  obtain ⟨g5, hg5⟩ : ∃ g, w.heap.size = g := ⟨_, rfl⟩
  obtain ⟨g6, hg6⟩ : ∃ g, w.heap.size + 1 = g := ⟨_, rfl⟩
  have hf : Blk w3 g5 X 23 ∧ Blk w3 g6 Y 23 ∧ Below w.heap.size w w3 := by
    have hw : w3 = ((w.alloc (.cells X 23)).alloc (.cells Y 23)) := hw1.symm
    have e1 : (w.alloc (.cells X 23)).heap.size = w.heap.size + 1 := by simp
    rw [hw, ← hg5, ← hg6]
    exact ⟨by exact (Blk.new _ _ _).alloc _, by rw [← e1]; exact Blk.new _ _ _, (((Below.refl _ _).alloc (Nat.le_refl _) _).alloc (by simp) _)⟩
  have HB5 := Lib.hid hf.1
  have HB6 := Lib.hid hf.2.1
  have HBW := Lib.hid hf.2.2
  have HG5 := Lib.hid (show w.heap.size ≤ g5 by omega)
  have HG6 := Lib.hid (show w.heap.size ≤ g6 by omega)
  clear hf hw1
  rw [hg6, hg5]
  clear hg5 hg6
  go_wp2_with fail
  with_reducible refine (HWI.out _).mono ?_
  rintro e wx ⟨rfl, rfl⟩
  go_wp2_with fail
  with_reducible refine (HWL.out _).mono ?_
  rintro e wx ⟨rfl, rfl⟩
  clear HWI HWL
  obtain ⟨i0, hi0, hi1, hi2, hi3⟩ := info_parts info5
  have HO1 := Lib.hid (⟨rfl, .inr ⟨w3.heap.size, 1, #[.int .u8 1], rfl, Nat.le_refl _, heap_alloc_new _ _, Nat.le_refl _, by decide, rfl, rfl⟩⟩ : (w3.alloc (.cells #[.int .u8 1] 5)).ownsRow w3.heap.size 5 1 (.slice (some ⟨w3.heap.size, 0, none⟩) 1 1) 1 [.int .u8 1])
  have hal : Below w3.heap.size w3 (w3.alloc (.cells #[.int .u8 1] 5)) := (Below.refl _ _).alloc (Nat.le_refl _) _
  have HCR := Lib.hid (((hblr.on HBW.out).below hal (Nat.le_refl _)))
  go_wp2_with fail
  with_reducible refine (HC4.out _).mono ?_
  rintro e wx ⟨rfl, rfl⟩
  go_wp2_with (at_builtin; refine wpList_append_rd rfl _ _ 24 rfl w3.heap.size 5 i0 Tryd.underlying24 hi0 hi1 hi2 hi3 _ 1 [.int .u8 1] rfl HO1.out w3.heap.size A4 M c4 bl rfl hbln HCR.out (by omega) (by simp) ?_)
  intro vq w4 ho hg
  have hb : Below w3.heap.size w3 w4 := hal.grown hg (by simp) (fun k hk => by simp [Value.ownBlock] at hk; omega)
  obtain ⟨AQ, cQ, rfl, hcq, hcmq⟩ := own_caps ho
  have HRM := Lib.hid (show Rd w4 w4.heap.size AQ bm by
    rw [← HBM.out]
    exact Rd.of_own (l := 1 :: bl) ho)
  replace HB5 := Lib.hid (HB5.out.below hb HB5.out.lt)
  replace HB6 := Lib.hid (HB6.out.below hb HB6.out.lt)
  replace HBW := Lib.hid (HBW.out.trans (hb.mono HBW.out.size))
  try rw [hq] at hcq
  try rw [hq]
  clear hb ho hg hal HCR HO1 hi0 hi1 hi2 hi3 HC4
  go_wp2_with (with_reducible refine wpList_load_blk rfl 23 (.tmp 5) rfl g5 rfl 23 X _ HB5.out Tryd.underlying23 rfl (by rw [HZX.out]; kernel_rfl) ?_)
  with_reducible refine (HPR.out w4 HBW.out).mono ?_
  rintro e w5 ⟨rfl, hb⟩
  replace HRM := Lib.hid (HRM.out.on hb)
  replace HB5 := Lib.hid (HB5.out.below hb HB5.out.lt)
  replace HB6 := Lib.hid (HB6.out.below hb HB6.out.lt)
  replace HBW := Lib.hid (HBW.out.trans (hb.mono HBW.out.size))
  clear hb HPR
  go_upto_region 5 with (with_reducible refine wpList_store_blk rfl 29 (.tmp 11) (.tmp 35) rfl w5.heap.size Z rfl rfl 29 _ (Blk.new _ _ _) (by rw [HZZ.out]; kernel_rfl) (by rw [HZZ.out]; kernel_rfl) HOZ.out ?_)
  generalize hwn : World.setRow _ _ _ = w6
  have hal : Below w5.heap.size w5 w6 := by
    rw [← hwn]
    exact below_row ((Below.refl _ _).alloc (Nat.le_refl _) _) (by simp) (Nat.le_refl _) _
  have HB11 := Lib.hid (show Blk w6 w5.heap.size Z 29 by
    rw [← hwn]
    exact (Blk.new _ _ _).row _)
  obtain ⟨g11, hgn⟩ : ∃ g, w5.heap.size = g := ⟨_, rfl⟩
  replace HRM := Lib.hid (HRM.out.on hal)
  replace HB5 := Lib.hid (HB5.out.below hal HB5.out.lt)
  replace HB6 := Lib.hid (HB6.out.below hal HB6.out.lt)
  replace HBW := Lib.hid (HBW.out.trans (hal.mono HBW.out.size))
  rw [hgn] at HB11 ⊢
  clear hal hwn hgn
  go_wp2_with (with_reducible refine wpList_load_blk rfl 23 (.tmp 6) rfl g6 rfl 23 Y _ HB6.out Tryd.underlying23 rfl (by rw [HZY.out]; kernel_rfl) ?_)
  with_reducible refine (HPR2.out w6 HBW.out).mono ?_
  rintro e w7 ⟨rfl, hb⟩
  replace HRM := Lib.hid (HRM.out.on hb)
  replace HB5 := Lib.hid (HB5.out.below hb HB5.out.lt)
  replace HB6 := Lib.hid (HB6.out.below hb HB6.out.lt)
  replace HB11 := Lib.hid (HB11.out.below hb HB11.out.lt)
  replace HBW := Lib.hid (HBW.out.trans (hb.mono HBW.out.size))
  clear hb HPR2
  go_upto_region 6 with (with_reducible refine wpList_store_blk rfl 29 (.tmp 13) (.tmp 41) rfl w7.heap.size Z2 rfl rfl 29 _ (Blk.new _ _ _) (by rw [HZZ2.out]; kernel_rfl) (by rw [HZZ2.out]; kernel_rfl) HOZ2.out ?_)
  generalize hwn : World.setRow _ _ _ = w8
  have hal : Below w7.heap.size w7 w8 := by
    rw [← hwn]
    exact below_row ((Below.refl _ _).alloc (Nat.le_refl _) _) (by simp) (Nat.le_refl _) _
  have HB13 := Lib.hid (show Blk w8 w7.heap.size Z2 29 by
    rw [← hwn]
    exact (Blk.new _ _ _).row _)
  obtain ⟨g13, hgn⟩ : ∃ g, w7.heap.size = g := ⟨_, rfl⟩
  replace HRM := Lib.hid (HRM.out.on hal)
  replace HB5 := Lib.hid (HB5.out.below hal HB5.out.lt)
  replace HB6 := Lib.hid (HB6.out.below hal HB6.out.lt)
  replace HB11 := Lib.hid (HB11.out.below hal HB11.out.lt)
  replace HBW := Lib.hid (HBW.out.trans (hal.mono HBW.out.size))
  rw [hgn] at HB13 ⊢
  clear hal hwn hgn
  go_wp2_with (with_reducible refine wpList_load_blk rfl 23 (.tmp 5) rfl g5 rfl 23 X _ HB5.out Tryd.underlying23 rfl (by rw [HZX.out]; kernel_rfl) ?_)
  with_reducible refine (HSI.out AQ cQ w8 HBW.out hcq hcmq HRM.out).mono ?_
  rintro e w9 ⟨V, cv, P, cp, rfl, hv1, hv2, hb⟩
  have HV1 := Lib.hid hv1
  have HV2 := Lib.hid hv2
  replace HRM := Lib.hid (HRM.out.on hb)
  obtain ⟨SA, hSA⟩ : ∃ x, sigA (p : Int) (i : Int) V P 67 cv p cp = x := ⟨_, rfl⟩
  have HESA := Lib.hid hSA
  have HZSA := Lib.hid (show SA.size = 4 by rw [← hSA]; rfl)
  have HOSA := Lib.hid (show SA.all (·.oneCell') = true by rw [← hSA]; exact sigA_one _ _ _ _ _ _ _ _)
  replace HB5 := Lib.hid (HB5.out.below hb HB5.out.lt)
  replace HB6 := Lib.hid (HB6.out.below hb HB6.out.lt)
  replace HB11 := Lib.hid (HB11.out.below hb HB11.out.lt)
  replace HB13 := Lib.hid (HB13.out.below hb HB13.out.lt)
  replace HBW := Lib.hid (HBW.out.trans (hb.mono HBW.out.size))
  rw [hSA]
  clear hb hv1 hv2 hSA HSI
  go_upto_region 7 with (with_reducible refine wpList_store_blk rfl 35 (.tmp 15) (.tmp 49) rfl w9.heap.size SA rfl rfl 35 _ (Blk.new _ _ _) (by rw [HZSA.out]; kernel_rfl) (by rw [HZSA.out]; kernel_rfl) HOSA.out ?_)
  generalize hwn : World.setRow _ _ _ = w10
  have hal : Below w9.heap.size w9 w10 := by
    rw [← hwn]
    exact below_row ((Below.refl _ _).alloc (Nat.le_refl _) _) (by simp) (Nat.le_refl _) _
  have HB15 := Lib.hid (show Blk w10 w9.heap.size SA 35 by
    rw [← hwn]
    exact (Blk.new _ _ _).row _)
  obtain ⟨g15, hgn⟩ : ∃ g, w9.heap.size = g := ⟨_, rfl⟩
  replace HRM := Lib.hid (HRM.out.on hal)
  replace HV1 := Lib.hid (HV1.out.on hal)
  replace HV2 := Lib.hid (HV2.out.on hal)
  replace HB5 := Lib.hid (HB5.out.below hal HB5.out.lt)
  replace HB6 := Lib.hid (HB6.out.below hal HB6.out.lt)
  replace HB11 := Lib.hid (HB11.out.below hal HB11.out.lt)
  replace HB13 := Lib.hid (HB13.out.below hal HB13.out.lt)
  replace HBW := Lib.hid (HBW.out.trans (hal.mono HBW.out.size))
  rw [hgn] at HB15 ⊢
  clear hal hwn hgn
  have HVW := Lib.hid (HVE.out AQ cQ V P cv cp w10 HBW.out hcq hcmq HRM.out HV1.out HV2.out)
  rw [HESA.out] at HVW
  clear HVE
  go_wp2_with (first
    | (refine wpList_load_w9 (.tmp 11) rfl g11 rfl Z HB11.out HZZ.out ?_ ?_; · rfl)
    | (refine wpList_load_sw9 (.tmp 15) rfl g15 rfl SA HB15.out HZSA.out ?_ ?_; · rfl))
  with_reducible refine (HVW.out).mono ?_
  rintro e w11 ⟨rfl, hb⟩
  replace HRM := Lib.hid (HRM.out.on hb)
  replace HV1 := Lib.hid (HV1.out.on hb)
  replace HV2 := Lib.hid (HV2.out.on hb)
  replace HB5 := Lib.hid (HB5.out.below hb HB5.out.lt)
  replace HB6 := Lib.hid (HB6.out.below hb HB6.out.lt)
  replace HB11 := Lib.hid (HB11.out.below hb HB11.out.lt)
  replace HB13 := Lib.hid (HB13.out.below hb HB13.out.lt)
  replace HB15 := Lib.hid (HB15.out.below hb HB15.out.lt)
  replace HBW := Lib.hid (HBW.out.trans (hb.mono HBW.out.size))
  clear hb HVW
  go_wp2_with (with_reducible refine wpList_make_nils rfl _ _ rfl N (by omega) rfl rfl ?_)
  intro w12 cs hbk hcz hcs hb
  obtain ⟨g17, hg17⟩ : ∃ g, w11.heap.size = g := ⟨_, rfl⟩
  rw [hg17] at hbk ⊢
  obtain ⟨o1, ho1⟩ : ∃ old, w12.cell? ⟨g17, i, none⟩ = some old := ⟨_, by rw [hbk.cell i]; exact Array.getElem?_eq_getElem (by omega)⟩
  have hf1 := hbk.frozen i
  have hgl := hbk.lt
  have HBK := Lib.hid (And.intro hbk (And.intro hcz hcs))
  have HG17 := Lib.hid hg17
  have HB12 := Lib.hid hb
  clear hbk hcz hcs hb hg17
  go_upto_region 11 with fail
  generalize hwn : World.setCell _ _ _ = w13
  have hb : Below w11.heap.size w11 w13 := by
    rw [← hwn]
    exact HB12.out.setCell (by rw [HG17.out]; exact Nat.le_refl _) _
  have HRR := Lib.hid (show RdR w13 w13.heap.size (some ⟨g17, 0, none⟩) (oneL N i bm) by
    obtain ⟨hbk, hcz, hcs⟩ := HBK.out
    have h := oneL_read (A := AQ) (c := cQ) (m := bm) hbk hcz hcs hiN (by rw [HML.out]; exact hcq) hcmq (fun w' hw => by
      have h2 : Below w11.heap.size w11 w' := HB12.out.trans (by rw [HG17.out]; exact hw)
      exact (HRM.out.below h2 (Nat.le_refl _)).more h2.size)
    rw [HML.out] at h
    rw [← hwn]
    exact h)
  clear hwn hf1 ho1 o1 hgl HBK HG17 HB12
  replace HRM := Lib.hid (HRM.out.on hb)
  replace HV1 := Lib.hid (HV1.out.on hb)
  replace HV2 := Lib.hid (HV2.out.on hb)
  replace HB5 := Lib.hid (HB5.out.below hb HB5.out.lt)
  replace HB6 := Lib.hid (HB6.out.below hb HB6.out.lt)
  replace HB11 := Lib.hid (HB11.out.below hb HB11.out.lt)
  replace HB13 := Lib.hid (HB13.out.below hb HB13.out.lt)
  replace HB15 := Lib.hid (HB15.out.below hb HB15.out.lt)
  replace HBW := Lib.hid (HBW.out.trans (hb.mono HBW.out.size))
  clear hb
  have HXW := Lib.hid (HEXP.out (some ⟨g17, 0, none⟩) AQ cQ V P cv cp w13 HBW.out HRR.out hcq hcmq HRM.out HV1.out HV2.out)
  rw [HESA.out] at HXW
  clear HEXP HRR
  go_wp2_with (first
    | (with_reducible refine wpList_load_blk rfl 23 (.tmp 5) rfl g5 rfl 23 X _ HB5.out Tryd.underlying23 rfl (by rw [HZX.out]; kernel_rfl) ?_)
    | (with_reducible refine wpList_load_blk rfl 35 (.tmp 15) rfl g15 rfl 35 SA _ HB15.out Tryd.underlying35 rfl (by rw [HZSA.out]; kernel_rfl) ?_))
  with_reducible refine (HXW.out).mono ?_
  rintro e w14 ⟨rfl, hb⟩
  replace HRM := Lib.hid (HRM.out.on hb)
  replace HV1 := Lib.hid (HV1.out.on hb)
  replace HV2 := Lib.hid (HV2.out.on hb)
  replace HB5 := Lib.hid (HB5.out.below hb HB5.out.lt)
  replace HB6 := Lib.hid (HB6.out.below hb HB6.out.lt)
  replace HB11 := Lib.hid (HB11.out.below hb HB11.out.lt)
  replace HB13 := Lib.hid (HB13.out.below hb HB13.out.lt)
  replace HB15 := Lib.hid (HB15.out.below hb HB15.out.lt)
  replace HBW := Lib.hid (HBW.out.trans (hb.mono HBW.out.size))
  clear hb HXW
  go_upto_region 12 with (with_reducible refine wpList_store_blk rfl 43 (.tmp 18) (.tmp 83) rfl w14.heap.size FZ rfl rfl 43 _ (Blk.new _ _ _) (by rw [HZFZ.out]; kernel_rfl) (by rw [HZFZ.out]; kernel_rfl) HOFZ.out ?_)
  generalize hwn : World.setRow _ _ _ = w15
  have hal : Below w14.heap.size w14 w15 := by
    rw [← hwn]
    exact below_row ((Below.refl _ _).alloc (Nat.le_refl _) _) (by simp) (Nat.le_refl _) _
  have HB18 := Lib.hid (show Blk w15 w14.heap.size FZ 43 by
    rw [← hwn]
    exact (Blk.new _ _ _).row _)
  obtain ⟨g18, hgn⟩ : ∃ g, w14.heap.size = g := ⟨_, rfl⟩
  replace HRM := Lib.hid (HRM.out.on hal)
  replace HV1 := Lib.hid (HV1.out.on hal)
  replace HV2 := Lib.hid (HV2.out.on hal)
  replace HB5 := Lib.hid (HB5.out.below hal HB5.out.lt)
  replace HB6 := Lib.hid (HB6.out.below hal HB6.out.lt)
  replace HB11 := Lib.hid (HB11.out.below hal HB11.out.lt)
  replace HB13 := Lib.hid (HB13.out.below hal HB13.out.lt)
  replace HB15 := Lib.hid (HB15.out.below hal HB15.out.lt)
  replace HBW := Lib.hid (HBW.out.trans (hal.mono HBW.out.size))
  rw [hgn] at HB18 ⊢
  clear hal hwn hgn
  have HWK := Lib.hid (fun W (hW : Below w15.heap.size w15 W) => wakes9_any W (tab_on HTAB.out (HBW.out.trans (hW.mono HBW.out.size)) (HBW.out.trans (hW.mono HBW.out.size)).size))
  have HLK := Lib.hid (fun W (hW : Below w15.heap.size w15 W) => (show W.cell? ⟨g18, 2, none⟩ = some (.bool false) by rw [(HB18.out.below hW HB18.out.lt).cell 2]; exact HLFZ.out))
  have HBX := Lib.hid (fun W (hW : Below w15.heap.size w15 W) => HB5.out.below hW HB5.out.lt)
  have HBY := Lib.hid (fun W (hW : Below w15.heap.size w15 W) => HB6.out.below hW HB6.out.lt)
  have HBZ := Lib.hid (fun W (hW : Below w15.heap.size w15 W) => HB11.out.below hW HB11.out.lt)
  have HBZ2 := Lib.hid (fun W (hW : Below w15.heap.size w15 W) => HB13.out.below hW HB13.out.lt)
  have HBS := Lib.hid (fun W (hW : Below w15.heap.size w15 W) => HB15.out.below hW HB15.out.lt)
  have HVW := Lib.hid (fun W (hW : Below w15.heap.size w15 W) => HVE2.out AQ cQ V P cv cp W (HBW.out.trans (hW.mono HBW.out.size)) hcq hcmq (HRM.out.on hW) (HV1.out.on hW) (HV2.out.on hW))
  rw [HESA.out] at HVW
  clear HVE2 HRM HV1 HV2 HB5 HB6 HB11 HB13 HB15 HB18
  go_wp2_with fail
  rcases bz with _ | _
  · have HKF := Lib.hid (HK0.out rfl)
    rw [HKF.out] at HKQ
    clear HK0
    refine wp_region_loose 30 1 (fun i => false) (promises [.is (.bool false), .is (.bool true), .is (.bool true), .is (.pointer (some ⟨g18, 2, none⟩)), .is (.bool false), .is (.bool true), .is (.bool true), .is (.bool true), .is (.agg Z2), .is (.slice AQ q cQ), .is (.agg SA), .is (.bool false), .is (.agg Z), .is (.agg Z2), .is (.bool false), .is (.bool true), .is (.bool true), .is (.bool true), .is (.agg Z), .is (.agg Z2), .is (.bool false), .is (.bool false), .is (.agg X), .is (.agg Y), .is (.bool true), .is (.bool true), .is (.bool true), .is (.bool true), .is (.bool true), .is (.bool true)]) (by kernel_rfl) rfl (by kernel_rfl) (fun i v w w' h hb => Spec.keep h hb) ⟨?_, ?_, ?_, ?_, ?_, ?_, ?_, ?_, ?_, ?_, ?_, ?_, ?_, ?_, ?_, ?_, ?_, ?_, ?_, ?_, ?_, ?_, ?_, ?_, ?_, ?_, ?_, ?_, ?_, ?_, trivial⟩ ?_
    · refine StepOKl.of ?_
      intro ac w hb hu hk
      refine ⟨wanted_none rfl, ?_⟩
      have e19 : ac.eval (.tmp 19) = .bool false := hu.is (t := 19) (by kernel_rfl)
      exact step_value (BigFrame.run_move (.tmp 19) rfl w) (Below.refl _ _) e19
    · refine StepOKl.of ?_
      intro ac w hb hu hk
      refine ⟨wanted_none rfl, ?_⟩
      have e85 : ac.eval (.tmp 85) = (.bool false) := (hk ⟨0, .data⟩ (by simp) rfl).is rfl rfl
      exact step_value (run_not e85 rfl w) (Below.refl _ _) rfl
    · refine StepOKl.of ?_
      intro ac w hb hu hk
      refine ⟨wanted_none rfl, ?_⟩
      have e86 : ac.eval (.tmp 86) = (.bool true) := (hk ⟨1, .data⟩ (by simp) rfl).is rfl rfl
      exact step_value (BigFrame.run_move (.tmp 86) rfl w) (Below.refl _ _) e86
    · refine StepOKl.of ?_
      intro ac w hb hu hk
      refine ⟨wanted_some rfl (hk ⟨2, .guard⟩ (by simp) rfl) rfl rfl (fun _ h => h), ?_⟩
      have e18 : ac.eval (.tmp 18) = .pointer (some ⟨g18, 0, none⟩) := hu.is (t := 18) (by kernel_rfl)
      refine step_value (w' := w) (v := (.pointer (some ⟨g18, 2, none⟩))) ?_ (Below.refl _ _) rfl
      generalize ac.eval = ρ at e18 ⊢
      go_simp
    · refine StepOKl.of ?_
      intro ac w hb hu hk
      refine ⟨wanted_some rfl (hk ⟨2, .guard⟩ (by simp) rfl) rfl rfl (fun _ h => h), ?_⟩
      have e88 : ac.eval (.tmp 88) = (.pointer (some ⟨g18, 2, none⟩)) := (hk ⟨3, .data⟩ (by simp) rfl).is rfl rfl
      have hc := HLK.out w hb
      refine step_value (w' := w) (v := .bool false) ?_ (Below.refl _ _) rfl
      generalize ac.eval = ρ at e88 ⊢
      go_simp
    · refine StepOKl.of ?_
      intro ac w hb hu hk
      refine ⟨wanted_some rfl (hk ⟨2, .guard⟩ (by simp) rfl) rfl rfl (fun _ h => h), ?_⟩
      have e89 : ac.eval (.tmp 89) = (.bool false) := (hk ⟨4, .data⟩ (by simp) rfl).is rfl rfl
      exact step_value (run_not e89 rfl w) (Below.refl _ _) rfl
    · refine StepOKl.of ?_
      intro ac w hb hu hk
      refine ⟨wanted_none rfl, ?_⟩
      have e87 : ac.eval (.tmp 87) = (.bool true) := (hk ⟨2, .data⟩ (by simp) rfl).is rfl rfl
      have e90 : ac.eval (.tmp 90) = (.bool true) := (hk ⟨5, .data⟩ (by simp) rfl).is rfl rfl
      exact step_value (run_pick_true e87 rfl w) (Below.refl _ _) e90
    · refine StepOKl.of ?_
      intro ac w hb hu hk
      refine ⟨wanted_none rfl, ?_⟩
      have e91 : ac.eval (.tmp 91) = (.bool true) := (hk ⟨6, .data⟩ (by simp) rfl).is rfl rfl
      exact step_value (BigFrame.run_move (.tmp 91) rfl w) (Below.refl _ _) e91
    · refine StepOKl.of ?_
      intro ac w hb hu hk
      refine ⟨wanted_some rfl (hk ⟨7, .guard⟩ (by simp) rfl) rfl rfl (fun _ h => h), ?_⟩
      have e13 : ac.eval (.tmp 13) = .pointer (some ⟨g13, 0, none⟩) := hu.is (t := 13) (by kernel_rfl)
      exact wp_load_row 29 (.tmp 13) rfl g13 e13 29 Z2 (0, 0) _ (HBZ2.out w hb) Tryd.underlying29 rfl (by rw [HZZ2.out]; kernel_rfl) ⟨_, rfl, rfl, Below.refl _ _⟩
    · refine StepOKl.of ?_
      intro ac w hb hu hk
      refine ⟨wanted_some rfl (hk ⟨7, .guard⟩ (by simp) rfl) rfl rfl (fun _ h => h), ?_⟩
      have e4 : ac.eval (.tmp 4) = .slice AQ q cQ := hu.is (t := 4) (by kernel_rfl)
      exact step_value (BigFrame.run_move (.tmp 4) rfl w) (Below.refl _ _) e4
    · refine StepOKl.of ?_
      intro ac w hb hu hk
      refine ⟨wanted_some rfl (hk ⟨7, .guard⟩ (by simp) rfl) rfl rfl (fun _ h => h), ?_⟩
      have e15 : ac.eval (.tmp 15) = .pointer (some ⟨g15, 0, none⟩) := hu.is (t := 15) (by kernel_rfl)
      exact wp_load_row 35 (.tmp 15) rfl g15 e15 35 SA (0, 0) _ (HBS.out w hb) Tryd.underlying35 rfl (by rw [HZSA.out]; kernel_rfl) ⟨_, rfl, rfl, Below.refl _ _⟩
    · refine StepOKl.of ?_
      intro ac w hb hu hk
      refine ⟨wanted_some rfl (hk ⟨7, .chain⟩ (by simp) rfl) rfl rfl (fun _ h => h), ?_⟩
      have e93 : ac.eval (.tmp 93) = (.agg Z2) := (hk ⟨8, .data⟩ (by simp) rfl).is rfl rfl
      have e94 : ac.eval (.tmp 94) = (.slice AQ q cQ) := (hk ⟨9, .data⟩ (by simp) rfl).is rfl rfl
      have e95 : ac.eval (.tmp 95) = (.agg SA) := (hk ⟨10, .data⟩ (by simp) rfl).is rfl rfl
      have ef : ac.eval (.func 15) = .func (.func 15) #[] #[] := rfl
      refine step_enter (f := 15) (args := #[.agg Z2, .slice AQ q cQ, .agg SA]) ?_ ?_
      · generalize ac.eval = ρ at e93 e94 e95 ef ⊢
        go_simp
      · exact (HVW.out w hb).mono fun e w' ⟨he, hq⟩ => ⟨_, he, rfl, hq⟩
    · refine StepOKl.of ?_
      intro ac w hb hu hk
      refine ⟨wanted_some rfl (hk ⟨7, .guard⟩ (by simp) rfl) rfl rfl (fun _ h => h), ?_⟩
      have e11 : ac.eval (.tmp 11) = .pointer (some ⟨g11, 0, none⟩) := hu.is (t := 11) (by kernel_rfl)
      exact wp_load_row 29 (.tmp 11) rfl g11 e11 29 Z (0, 0) _ (HBZ.out w hb) Tryd.underlying29 rfl (by rw [HZZ.out]; kernel_rfl) ⟨_, rfl, rfl, Below.refl _ _⟩
    · refine StepOKl.of ?_
      intro ac w hb hu hk
      refine ⟨wanted_some rfl (hk ⟨7, .guard⟩ (by simp) rfl) rfl rfl (fun _ h => h), ?_⟩
      have e13 : ac.eval (.tmp 13) = .pointer (some ⟨g13, 0, none⟩) := hu.is (t := 13) (by kernel_rfl)
      exact wp_load_row 29 (.tmp 13) rfl g13 e13 29 Z2 (0, 0) _ (HBZ2.out w hb) Tryd.underlying29 rfl (by rw [HZZ2.out]; kernel_rfl) ⟨_, rfl, rfl, Below.refl _ _⟩
    · refine StepOKl.of ?_
      intro ac w hb hu hk
      refine ⟨wanted_some rfl (hk ⟨7, .guard⟩ (by simp) rfl) rfl rfl (fun _ h => h), ?_⟩
      have e97 : ac.eval (.tmp 97) = (.agg Z) := (hk ⟨12, .data⟩ (by simp) rfl).is rfl rfl
      have e98 : ac.eval (.tmp 98) = (.agg Z2) := (hk ⟨13, .data⟩ (by simp) rfl).is rfl rfl
      refine step_value (w' := w) (v := .bool false) ?_ (Below.refl _ _) rfl
      have hq := HZQ.out w
      generalize ac.eval = ρ at e97 e98 ⊢
      go_simp
    · refine StepOKl.of ?_
      intro ac w hb hu hk
      refine ⟨wanted_some rfl (hk ⟨7, .guard⟩ (by simp) rfl) rfl rfl (fun _ h => h), ?_⟩
      have e96 : ac.eval (.tmp 96) = (.bool false) := (hk ⟨11, .data⟩ (by simp) rfl).is rfl rfl
      have e99 : ac.eval (.tmp 99) = (.bool false) := (hk ⟨14, .data⟩ (by simp) rfl).is rfl rfl
      refine step_value (w' := w) (v := (.bool true)) ?_ (Below.refl _ _) rfl
      generalize ac.eval = ρ at e96 e99 ⊢
      go_simp
    · refine StepOKl.of ?_
      intro ac w hb hu hk
      refine ⟨wanted_none rfl, ?_⟩
      have e92 : ac.eval (.tmp 92) = (.bool true) := (hk ⟨7, .data⟩ (by simp) rfl).is rfl rfl
      have e100 : ac.eval (.tmp 100) = (.bool true) := (hk ⟨15, .data⟩ (by simp) rfl).is rfl rfl
      exact step_value (run_pick_true e92 rfl w) (Below.refl _ _) e100
    · refine StepOKl.of ?_
      intro ac w hb hu hk
      refine ⟨wanted_none rfl, ?_⟩
      have e101 : ac.eval (.tmp 101) = (.bool true) := (hk ⟨16, .data⟩ (by simp) rfl).is rfl rfl
      exact step_value (BigFrame.run_move (.tmp 101) rfl w) (Below.refl _ _) e101
    · refine StepOKl.of ?_
      intro ac w hb hu hk
      refine ⟨wanted_some rfl (hk ⟨17, .guard⟩ (by simp) rfl) rfl rfl (fun _ h => h), ?_⟩
      have e11 : ac.eval (.tmp 11) = .pointer (some ⟨g11, 0, none⟩) := hu.is (t := 11) (by kernel_rfl)
      exact wp_load_row 29 (.tmp 11) rfl g11 e11 29 Z (0, 0) _ (HBZ.out w hb) Tryd.underlying29 rfl (by rw [HZZ.out]; kernel_rfl) ⟨_, rfl, rfl, Below.refl _ _⟩
    · refine StepOKl.of ?_
      intro ac w hb hu hk
      refine ⟨wanted_some rfl (hk ⟨17, .guard⟩ (by simp) rfl) rfl rfl (fun _ h => h), ?_⟩
      have e13 : ac.eval (.tmp 13) = .pointer (some ⟨g13, 0, none⟩) := hu.is (t := 13) (by kernel_rfl)
      exact wp_load_row 29 (.tmp 13) rfl g13 e13 29 Z2 (0, 0) _ (HBZ2.out w hb) Tryd.underlying29 rfl (by rw [HZZ2.out]; kernel_rfl) ⟨_, rfl, rfl, Below.refl _ _⟩
    · refine StepOKl.of ?_
      intro ac w hb hu hk
      refine ⟨wanted_some rfl (hk ⟨17, .guard⟩ (by simp) rfl) rfl rfl (fun _ h => h), ?_⟩
      have e103 : ac.eval (.tmp 103) = (.agg Z) := (hk ⟨18, .data⟩ (by simp) rfl).is rfl rfl
      have e104 : ac.eval (.tmp 104) = (.agg Z2) := (hk ⟨19, .data⟩ (by simp) rfl).is rfl rfl
      refine step_value (w' := w) (v := .bool false) ?_ (Below.refl _ _) rfl
      have hq := HZQ.out w
      generalize ac.eval = ρ at e103 e104 ⊢
      go_simp
    · refine StepOKl.of ?_
      intro ac w hb hu hk
      refine ⟨wanted_some rfl (hk ⟨17, .chain⟩ (by simp) rfl) rfl rfl (fun _ h => h), ?_⟩
      have e105 : ac.eval (.tmp 105) = (.bool false) := (hk ⟨20, .data⟩ (by simp) rfl).is rfl rfl
      exact step_value (BigFrame.run_move (.tmp 105) rfl w) (Below.refl _ _) e105
    · refine StepOKl.of ?_
      intro ac w hb hu hk
      refine ⟨wanted_some rfl (hk ⟨21, .guard⟩ (by simp) rfl) rfl rfl (fun _ h => h), ?_⟩
      have e5 : ac.eval (.tmp 5) = .pointer (some ⟨g5, 0, none⟩) := hu.is (t := 5) (by kernel_rfl)
      exact wp_load_row 23 (.tmp 5) rfl g5 e5 23 X (0, 0) _ (HBX.out w hb) Tryd.underlying23 rfl (by rw [HZX.out]; kernel_rfl) ⟨_, rfl, rfl, Below.refl _ _⟩
    · refine StepOKl.of ?_
      intro ac w hb hu hk
      refine ⟨wanted_some rfl (hk ⟨21, .guard⟩ (by simp) rfl) rfl rfl (fun _ h => h), ?_⟩
      have e6 : ac.eval (.tmp 6) = .pointer (some ⟨g6, 0, none⟩) := hu.is (t := 6) (by kernel_rfl)
      exact wp_load_row 23 (.tmp 6) rfl g6 e6 23 Y (0, 0) _ (HBY.out w hb) Tryd.underlying23 rfl (by rw [HZY.out]; kernel_rfl) ⟨_, rfl, rfl, Below.refl _ _⟩
    · refine StepOKl.of ?_
      intro ac w hb hu hk
      refine ⟨wanted_some rfl (hk ⟨21, .guard⟩ (by simp) rfl) rfl rfl (fun _ h => h), ?_⟩
      have e107 : ac.eval (.tmp 107) = (.agg X) := (hk ⟨22, .data⟩ (by simp) rfl).is rfl rfl
      have e108 : ac.eval (.tmp 108) = (.agg Y) := (hk ⟨23, .data⟩ (by simp) rfl).is rfl rfl
      refine step_value (w' := w) (v := .bool true) ?_ (Below.refl _ _) rfl
      have hq := HKQ.out w
      generalize ac.eval = ρ at e107 e108 ⊢
      go_simp
    · refine StepOKl.of ?_
      intro ac w hb hu hk
      refine ⟨wanted_some rfl (hk ⟨17, .guard⟩ (by simp) rfl) rfl rfl (fun _ h => h), ?_⟩
      have e106 : ac.eval (.tmp 106) = (.bool false) := (hk ⟨21, .data⟩ (by simp) rfl).is rfl rfl
      have e109 : ac.eval (.tmp 109) = (.bool true) := (hk ⟨24, .data⟩ (by simp) rfl).is rfl rfl
      exact step_value (run_pick_false e106 rfl w) (Below.refl _ _) e109
    · refine StepOKl.of ?_
      intro ac w hb hu hk
      refine ⟨wanted_none rfl, ?_⟩
      have e102 : ac.eval (.tmp 102) = (.bool true) := (hk ⟨17, .data⟩ (by simp) rfl).is rfl rfl
      have e110 : ac.eval (.tmp 110) = (.bool true) := (hk ⟨25, .data⟩ (by simp) rfl).is rfl rfl
      exact step_value (run_pick_true e102 rfl w) (Below.refl _ _) e110
    · refine StepOKl.of ?_
      intro ac w hb hu hk
      refine ⟨wanted_none rfl, ?_⟩
      have e111 : ac.eval (.tmp 111) = (.bool true) := (hk ⟨26, .data⟩ (by simp) rfl).is rfl rfl
      exact step_value (BigFrame.run_move (.tmp 111) rfl w) (Below.refl _ _) e111
    · refine StepOKl.of ?_
      intro ac w hb hu hk
      refine ⟨wanted_some rfl (hk ⟨27, .chain⟩ (by simp) rfl) rfl rfl (fun _ h => h), ?_⟩
      have ef : ac.eval (.func 17) = .func (.func 17) #[] #[] := rfl
      refine step_enter (f := 17) (args := #[]) ?_ ?_
      · generalize ac.eval = ρ at  ef ⊢
        go_simp
      · exact (HWK.out w hb).mono fun e w' ⟨he, hq⟩ => ⟨_, he, rfl, hq⟩
    · refine StepOKl.of ?_
      intro ac w hb hu hk
      refine ⟨wanted_none rfl, ?_⟩
      have e112 : ac.eval (.tmp 112) = (.bool true) := (hk ⟨27, .data⟩ (by simp) rfl).is rfl rfl
      have e113 : ac.eval (.tmp 113) = (.bool true) := (hk ⟨28, .data⟩ (by simp) rfl).is rfl rfl
      exact step_value (run_pick_true e112 rfl w) (Below.refl _ _) e113
    · intro ac w' hb hu hk hap
      obtain ⟨_, h85, rfl⟩ := (hk 0 (by decide)).put rfl rfl
      obtain ⟨_, h86, rfl⟩ := (hk 1 (by decide)).put rfl rfl
      obtain ⟨_, h87, rfl⟩ := (hk 2 (by decide)).put rfl rfl
      obtain ⟨_, h88, rfl⟩ := (hk 3 (by decide)).put rfl rfl
      obtain ⟨_, h89, rfl⟩ := (hk 4 (by decide)).put rfl rfl
      obtain ⟨_, h90, rfl⟩ := (hk 5 (by decide)).put rfl rfl
      obtain ⟨_, h91, rfl⟩ := (hk 6 (by decide)).put rfl rfl
      obtain ⟨_, h92, rfl⟩ := (hk 7 (by decide)).put rfl rfl
      obtain ⟨_, h93, rfl⟩ := (hk 8 (by decide)).put rfl rfl
      obtain ⟨_, h94, rfl⟩ := (hk 9 (by decide)).put rfl rfl
      obtain ⟨_, h95, rfl⟩ := (hk 10 (by decide)).put rfl rfl
      obtain ⟨_, h96, rfl⟩ := (hk 11 (by decide)).put rfl rfl
      obtain ⟨_, h97, rfl⟩ := (hk 12 (by decide)).put rfl rfl
      obtain ⟨_, h98, rfl⟩ := (hk 13 (by decide)).put rfl rfl
      obtain ⟨_, h99, rfl⟩ := (hk 14 (by decide)).put rfl rfl
      obtain ⟨_, h100, rfl⟩ := (hk 15 (by decide)).put rfl rfl
      obtain ⟨_, h101, rfl⟩ := (hk 16 (by decide)).put rfl rfl
      obtain ⟨_, h102, rfl⟩ := (hk 17 (by decide)).put rfl rfl
      obtain ⟨_, h103, rfl⟩ := (hk 18 (by decide)).put rfl rfl
      obtain ⟨_, h104, rfl⟩ := (hk 19 (by decide)).put rfl rfl
      obtain ⟨_, h105, rfl⟩ := (hk 20 (by decide)).put rfl rfl
      obtain ⟨_, h106, rfl⟩ := (hk 21 (by decide)).put rfl rfl
      obtain ⟨_, h107, rfl⟩ := (hk 22 (by decide)).put rfl rfl
      obtain ⟨_, h108, rfl⟩ := (hk 23 (by decide)).put rfl rfl
      obtain ⟨_, h109, rfl⟩ := (hk 24 (by decide)).put rfl rfl
      obtain ⟨_, h110, rfl⟩ := (hk 25 (by decide)).put rfl rfl
      obtain ⟨_, h111, rfl⟩ := (hk 26 (by decide)).put rfl rfl
      obtain ⟨_, h112, rfl⟩ := (hk 27 (by decide)).put rfl rfl
      obtain ⟨_, h113, rfl⟩ := (hk 28 (by decide)).put rfl rfl
      obtain ⟨_, h114, rfl⟩ := (hk 29 (by decide)).put rfl rfl
      clear hap
      have hF : AllPuts ac.tmps ((85, _) :: (86, _) :: (87, _) :: (88, _) :: (89, _) :: (90, _) :: (91, _) :: (92, _) :: (93, _) :: (94, _) :: (95, _) :: (96, _) :: (97, _) :: (98, _) :: (99, _) :: (100, _) :: (101, _) :: (102, _) :: (103, _) :: (104, _) :: (105, _) :: (106, _) :: (107, _) :: (108, _) :: (109, _) :: (110, _) :: (111, _) :: (112, _) :: (113, _) :: (114, _) :: []) := ⟨h85, h86, h87, h88, h89, h90, h91, h92, h93, h94, h95, h96, h97, h98, h99, h100, h101, h102, h103, h104, h105, h106, h107, h108, h109, h110, h111, h112, h113, h114, trivial⟩
      obtain rfl := frame_puts hu (by kernel_rfl) hF
      simp only [puts, Act.put, List.setIfInBounds_toArray, List.set_cons_zero, List.set_cons_succ, List.drop_succ_cons, List.drop_zero]
      clear hk hu hF h85 h86 h87 h88 h89 h90 h91 h92 h93 h94 h95 h96 h97 h98 h99 h100 h101 h102 h103 h104 h105 h106 h107 h108 h109 h110 h111 h112 h113 h114
      have HBE := Lib.hid (HBW.out.trans (hb.mono HBW.out.size))
      clear hb
      go_wp2_with fail
      go_ret
      exact ⟨by first | rfl | kernel_rfl, HBE.out⟩
  · clear HK0
    refine wp_region_skip 30 1 (fun i => false) (promises [.is (.bool false), .is (.bool true), .is (.bool true), .is (.pointer (some ⟨g18, 2, none⟩)), .is (.bool false), .is (.bool true), .is (.bool true), .is (.bool true), .is (.agg Z2), .is (.slice AQ q cQ), .is (.agg SA), .is (.bool true), .is (.agg Z), .is (.agg Z2), .is (.bool true), .is (.bool true), .is (.bool true), .is (.bool true), .is (.agg Z), .is (.agg Z2), .is (.bool true), .is (.bool true), .is (undef), .is (undef), .is (undef), .is (.bool true), .is (.bool true), .is (.bool true), .is (.bool true), .is (.bool true)]) (by kernel_rfl) rfl (by kernel_rfl) (fun i v w w' h hb => Spec.keep h hb) ⟨?_, ?_, ?_, ?_, ?_, ?_, ?_, ?_, ?_, ?_, ?_, ?_, ?_, ?_, ?_, ?_, ?_, ?_, ?_, ?_, ?_, ?_, ?_, ?_, ?_, ?_, ?_, ?_, ?_, ?_, trivial⟩ ?_
    · refine StepOKs.of ?_
      intro ac w hb hu hk
      refine ⟨wanted_none rfl, ?_⟩
      have e19 : ac.eval (.tmp 19) = .bool false := hu.is (t := 19) (by kernel_rfl)
      exact step_value (BigFrame.run_move (.tmp 19) rfl w) (Below.refl _ _) e19
    · refine StepOKs.of ?_
      intro ac w hb hu hk
      refine ⟨wanted_none rfl, ?_⟩
      have e85 : ac.eval (.tmp 85) = (.bool false) := (hk ⟨0, .data⟩ (by simp) rfl).is rfl rfl
      exact step_value (run_not e85 rfl w) (Below.refl _ _) rfl
    · refine StepOKs.of ?_
      intro ac w hb hu hk
      refine ⟨wanted_none rfl, ?_⟩
      have e86 : ac.eval (.tmp 86) = (.bool true) := (hk ⟨1, .data⟩ (by simp) rfl).is rfl rfl
      exact step_value (BigFrame.run_move (.tmp 86) rfl w) (Below.refl _ _) e86
    · refine StepOKs.of ?_
      intro ac w hb hu hk
      refine ⟨wanted_some rfl (hk ⟨2, .guard⟩ (by simp) rfl) rfl rfl (fun _ h => h), ?_⟩
      have e18 : ac.eval (.tmp 18) = .pointer (some ⟨g18, 0, none⟩) := hu.is (t := 18) (by kernel_rfl)
      refine step_value (w' := w) (v := (.pointer (some ⟨g18, 2, none⟩))) ?_ (Below.refl _ _) rfl
      generalize ac.eval = ρ at e18 ⊢
      go_simp
    · refine StepOKs.of ?_
      intro ac w hb hu hk
      refine ⟨wanted_some rfl (hk ⟨2, .guard⟩ (by simp) rfl) rfl rfl (fun _ h => h), ?_⟩
      have e88 : ac.eval (.tmp 88) = (.pointer (some ⟨g18, 2, none⟩)) := (hk ⟨3, .data⟩ (by simp) rfl).is rfl rfl
      have hc := HLK.out w hb
      refine step_value (w' := w) (v := .bool false) ?_ (Below.refl _ _) rfl
      generalize ac.eval = ρ at e88 ⊢
      go_simp
    · refine StepOKs.of ?_
      intro ac w hb hu hk
      refine ⟨wanted_some rfl (hk ⟨2, .guard⟩ (by simp) rfl) rfl rfl (fun _ h => h), ?_⟩
      have e89 : ac.eval (.tmp 89) = (.bool false) := (hk ⟨4, .data⟩ (by simp) rfl).is rfl rfl
      exact step_value (run_not e89 rfl w) (Below.refl _ _) rfl
    · refine StepOKs.of ?_
      intro ac w hb hu hk
      refine ⟨wanted_none rfl, ?_⟩
      have e87 : ac.eval (.tmp 87) = (.bool true) := (hk ⟨2, .data⟩ (by simp) rfl).is rfl rfl
      have e90 : ac.eval (.tmp 90) = (.bool true) := (hk ⟨5, .data⟩ (by simp) rfl).is rfl rfl
      exact step_value (run_pick_true e87 rfl w) (Below.refl _ _) e90
    · refine StepOKs.of ?_
      intro ac w hb hu hk
      refine ⟨wanted_none rfl, ?_⟩
      have e91 : ac.eval (.tmp 91) = (.bool true) := (hk ⟨6, .data⟩ (by simp) rfl).is rfl rfl
      exact step_value (BigFrame.run_move (.tmp 91) rfl w) (Below.refl _ _) e91
    · refine StepOKs.of ?_
      intro ac w hb hu hk
      refine ⟨wanted_some rfl (hk ⟨7, .guard⟩ (by simp) rfl) rfl rfl (fun _ h => h), ?_⟩
      have e13 : ac.eval (.tmp 13) = .pointer (some ⟨g13, 0, none⟩) := hu.is (t := 13) (by kernel_rfl)
      exact wp_load_row 29 (.tmp 13) rfl g13 e13 29 Z2 (0, 0) _ (HBZ2.out w hb) Tryd.underlying29 rfl (by rw [HZZ2.out]; kernel_rfl) ⟨_, rfl, rfl, Below.refl _ _⟩
    · refine StepOKs.of ?_
      intro ac w hb hu hk
      refine ⟨wanted_some rfl (hk ⟨7, .guard⟩ (by simp) rfl) rfl rfl (fun _ h => h), ?_⟩
      have e4 : ac.eval (.tmp 4) = .slice AQ q cQ := hu.is (t := 4) (by kernel_rfl)
      exact step_value (BigFrame.run_move (.tmp 4) rfl w) (Below.refl _ _) e4
    · refine StepOKs.of ?_
      intro ac w hb hu hk
      refine ⟨wanted_some rfl (hk ⟨7, .guard⟩ (by simp) rfl) rfl rfl (fun _ h => h), ?_⟩
      have e15 : ac.eval (.tmp 15) = .pointer (some ⟨g15, 0, none⟩) := hu.is (t := 15) (by kernel_rfl)
      exact wp_load_row 35 (.tmp 15) rfl g15 e15 35 SA (0, 0) _ (HBS.out w hb) Tryd.underlying35 rfl (by rw [HZSA.out]; kernel_rfl) ⟨_, rfl, rfl, Below.refl _ _⟩
    · refine StepOKs.of ?_
      intro ac w hb hu hk
      refine ⟨wanted_some rfl (hk ⟨7, .chain⟩ (by simp) rfl) rfl rfl (fun _ h => h), ?_⟩
      have e93 : ac.eval (.tmp 93) = (.agg Z2) := (hk ⟨8, .data⟩ (by simp) rfl).is rfl rfl
      have e94 : ac.eval (.tmp 94) = (.slice AQ q cQ) := (hk ⟨9, .data⟩ (by simp) rfl).is rfl rfl
      have e95 : ac.eval (.tmp 95) = (.agg SA) := (hk ⟨10, .data⟩ (by simp) rfl).is rfl rfl
      have ef : ac.eval (.func 15) = .func (.func 15) #[] #[] := rfl
      refine step_enter (f := 15) (args := #[.agg Z2, .slice AQ q cQ, .agg SA]) ?_ ?_
      · generalize ac.eval = ρ at e93 e94 e95 ef ⊢
        go_simp
      · exact (HVW.out w hb).mono fun e w' ⟨he, hq⟩ => ⟨_, he, rfl, hq⟩
    · refine StepOKs.of ?_
      intro ac w hb hu hk
      refine ⟨wanted_some rfl (hk ⟨7, .guard⟩ (by simp) rfl) rfl rfl (fun _ h => h), ?_⟩
      have e11 : ac.eval (.tmp 11) = .pointer (some ⟨g11, 0, none⟩) := hu.is (t := 11) (by kernel_rfl)
      exact wp_load_row 29 (.tmp 11) rfl g11 e11 29 Z (0, 0) _ (HBZ.out w hb) Tryd.underlying29 rfl (by rw [HZZ.out]; kernel_rfl) ⟨_, rfl, rfl, Below.refl _ _⟩
    · refine StepOKs.of ?_
      intro ac w hb hu hk
      refine ⟨wanted_some rfl (hk ⟨7, .guard⟩ (by simp) rfl) rfl rfl (fun _ h => h), ?_⟩
      have e13 : ac.eval (.tmp 13) = .pointer (some ⟨g13, 0, none⟩) := hu.is (t := 13) (by kernel_rfl)
      exact wp_load_row 29 (.tmp 13) rfl g13 e13 29 Z2 (0, 0) _ (HBZ2.out w hb) Tryd.underlying29 rfl (by rw [HZZ2.out]; kernel_rfl) ⟨_, rfl, rfl, Below.refl _ _⟩
    · refine StepOKs.of ?_
      intro ac w hb hu hk
      refine ⟨wanted_some rfl (hk ⟨7, .guard⟩ (by simp) rfl) rfl rfl (fun _ h => h), ?_⟩
      have e97 : ac.eval (.tmp 97) = (.agg Z) := (hk ⟨12, .data⟩ (by simp) rfl).is rfl rfl
      have e98 : ac.eval (.tmp 98) = (.agg Z2) := (hk ⟨13, .data⟩ (by simp) rfl).is rfl rfl
      refine step_value (w' := w) (v := .bool true) ?_ (Below.refl _ _) rfl
      have hq := HZQ.out w
      generalize ac.eval = ρ at e97 e98 ⊢
      go_simp
    · refine StepOKs.of ?_
      intro ac w hb hu hk
      refine ⟨wanted_some rfl (hk ⟨7, .guard⟩ (by simp) rfl) rfl rfl (fun _ h => h), ?_⟩
      have e96 : ac.eval (.tmp 96) = (.bool true) := (hk ⟨11, .data⟩ (by simp) rfl).is rfl rfl
      have e99 : ac.eval (.tmp 99) = (.bool true) := (hk ⟨14, .data⟩ (by simp) rfl).is rfl rfl
      refine step_value (w' := w) (v := (.bool true)) ?_ (Below.refl _ _) rfl
      generalize ac.eval = ρ at e96 e99 ⊢
      go_simp
    · refine StepOKs.of ?_
      intro ac w hb hu hk
      refine ⟨wanted_none rfl, ?_⟩
      have e92 : ac.eval (.tmp 92) = (.bool true) := (hk ⟨7, .data⟩ (by simp) rfl).is rfl rfl
      have e100 : ac.eval (.tmp 100) = (.bool true) := (hk ⟨15, .data⟩ (by simp) rfl).is rfl rfl
      exact step_value (run_pick_true e92 rfl w) (Below.refl _ _) e100
    · refine StepOKs.of ?_
      intro ac w hb hu hk
      refine ⟨wanted_none rfl, ?_⟩
      have e101 : ac.eval (.tmp 101) = (.bool true) := (hk ⟨16, .data⟩ (by simp) rfl).is rfl rfl
      exact step_value (BigFrame.run_move (.tmp 101) rfl w) (Below.refl _ _) e101
    · refine StepOKs.of ?_
      intro ac w hb hu hk
      refine ⟨wanted_some rfl (hk ⟨17, .guard⟩ (by simp) rfl) rfl rfl (fun _ h => h), ?_⟩
      have e11 : ac.eval (.tmp 11) = .pointer (some ⟨g11, 0, none⟩) := hu.is (t := 11) (by kernel_rfl)
      exact wp_load_row 29 (.tmp 11) rfl g11 e11 29 Z (0, 0) _ (HBZ.out w hb) Tryd.underlying29 rfl (by rw [HZZ.out]; kernel_rfl) ⟨_, rfl, rfl, Below.refl _ _⟩
    · refine StepOKs.of ?_
      intro ac w hb hu hk
      refine ⟨wanted_some rfl (hk ⟨17, .guard⟩ (by simp) rfl) rfl rfl (fun _ h => h), ?_⟩
      have e13 : ac.eval (.tmp 13) = .pointer (some ⟨g13, 0, none⟩) := hu.is (t := 13) (by kernel_rfl)
      exact wp_load_row 29 (.tmp 13) rfl g13 e13 29 Z2 (0, 0) _ (HBZ2.out w hb) Tryd.underlying29 rfl (by rw [HZZ2.out]; kernel_rfl) ⟨_, rfl, rfl, Below.refl _ _⟩
    · refine StepOKs.of ?_
      intro ac w hb hu hk
      refine ⟨wanted_some rfl (hk ⟨17, .guard⟩ (by simp) rfl) rfl rfl (fun _ h => h), ?_⟩
      have e103 : ac.eval (.tmp 103) = (.agg Z) := (hk ⟨18, .data⟩ (by simp) rfl).is rfl rfl
      have e104 : ac.eval (.tmp 104) = (.agg Z2) := (hk ⟨19, .data⟩ (by simp) rfl).is rfl rfl
      refine step_value (w' := w) (v := .bool true) ?_ (Below.refl _ _) rfl
      have hq := HZQ.out w
      generalize ac.eval = ρ at e103 e104 ⊢
      go_simp
    · refine StepOKs.of ?_
      intro ac w hb hu hk
      refine ⟨wanted_some rfl (hk ⟨17, .chain⟩ (by simp) rfl) rfl rfl (fun _ h => h), ?_⟩
      have e105 : ac.eval (.tmp 105) = (.bool true) := (hk ⟨20, .data⟩ (by simp) rfl).is rfl rfl
      exact step_value (BigFrame.run_move (.tmp 105) rfl w) (Below.refl _ _) e105
    · refine StepOKs.skip ?_
      intro ac w hb hu hk
      exact ⟨unwanted_bool rfl (hk ⟨21, .guard⟩ (by simp) rfl) rfl rfl (fun _ h => h) (by decide), rfl⟩
    · refine StepOKs.skip ?_
      intro ac w hb hu hk
      exact ⟨unwanted_bool rfl (hk ⟨21, .guard⟩ (by simp) rfl) rfl rfl (fun _ h => h) (by decide), rfl⟩
    · refine StepOKs.skip ?_
      intro ac w hb hu hk
      exact ⟨unwanted_bool rfl (hk ⟨21, .guard⟩ (by simp) rfl) rfl rfl (fun _ h => h) (by decide), rfl⟩
    · refine StepOKs.of ?_
      intro ac w hb hu hk
      refine ⟨wanted_some rfl (hk ⟨17, .guard⟩ (by simp) rfl) rfl rfl (fun _ h => h), ?_⟩
      have e106 : ac.eval (.tmp 106) = (.bool true) := (hk ⟨21, .data⟩ (by simp) rfl).is rfl rfl
      have e109 : ac.eval (.tmp 109) = (undef) := (hk ⟨24, .data⟩ (by simp) rfl).is rfl rfl
      refine step_value (w' := w) (v := .bool true) ?_ (Below.refl _ _) rfl
      exact run_pick_true (a := .const (.bool true)) e106 rfl w
    · refine StepOKs.of ?_
      intro ac w hb hu hk
      refine ⟨wanted_none rfl, ?_⟩
      have e102 : ac.eval (.tmp 102) = (.bool true) := (hk ⟨17, .data⟩ (by simp) rfl).is rfl rfl
      have e110 : ac.eval (.tmp 110) = (.bool true) := (hk ⟨25, .data⟩ (by simp) rfl).is rfl rfl
      exact step_value (run_pick_true e102 rfl w) (Below.refl _ _) e110
    · refine StepOKs.of ?_
      intro ac w hb hu hk
      refine ⟨wanted_none rfl, ?_⟩
      have e111 : ac.eval (.tmp 111) = (.bool true) := (hk ⟨26, .data⟩ (by simp) rfl).is rfl rfl
      exact step_value (BigFrame.run_move (.tmp 111) rfl w) (Below.refl _ _) e111
    · refine StepOKs.of ?_
      intro ac w hb hu hk
      refine ⟨wanted_some rfl (hk ⟨27, .chain⟩ (by simp) rfl) rfl rfl (fun _ h => h), ?_⟩
      have ef : ac.eval (.func 17) = .func (.func 17) #[] #[] := rfl
      refine step_enter (f := 17) (args := #[]) ?_ ?_
      · generalize ac.eval = ρ at  ef ⊢
        go_simp
      · exact (HWK.out w hb).mono fun e w' ⟨he, hq⟩ => ⟨_, he, rfl, hq⟩
    · refine StepOKs.of ?_
      intro ac w hb hu hk
      refine ⟨wanted_none rfl, ?_⟩
      have e112 : ac.eval (.tmp 112) = (.bool true) := (hk ⟨27, .data⟩ (by simp) rfl).is rfl rfl
      have e113 : ac.eval (.tmp 113) = (.bool true) := (hk ⟨28, .data⟩ (by simp) rfl).is rfl rfl
      exact step_value (run_pick_true e112 rfl w) (Below.refl _ _) e113
    · intro ac w' hb hu hk hap
      obtain ⟨_, h85, rfl⟩ := (hk 0 (by decide)).put rfl rfl
      obtain ⟨_, h86, rfl⟩ := (hk 1 (by decide)).put rfl rfl
      obtain ⟨_, h87, rfl⟩ := (hk 2 (by decide)).put rfl rfl
      obtain ⟨_, h88, rfl⟩ := (hk 3 (by decide)).put rfl rfl
      obtain ⟨_, h89, rfl⟩ := (hk 4 (by decide)).put rfl rfl
      obtain ⟨_, h90, rfl⟩ := (hk 5 (by decide)).put rfl rfl
      obtain ⟨_, h91, rfl⟩ := (hk 6 (by decide)).put rfl rfl
      obtain ⟨_, h92, rfl⟩ := (hk 7 (by decide)).put rfl rfl
      obtain ⟨_, h93, rfl⟩ := (hk 8 (by decide)).put rfl rfl
      obtain ⟨_, h94, rfl⟩ := (hk 9 (by decide)).put rfl rfl
      obtain ⟨_, h95, rfl⟩ := (hk 10 (by decide)).put rfl rfl
      obtain ⟨_, h96, rfl⟩ := (hk 11 (by decide)).put rfl rfl
      obtain ⟨_, h97, rfl⟩ := (hk 12 (by decide)).put rfl rfl
      obtain ⟨_, h98, rfl⟩ := (hk 13 (by decide)).put rfl rfl
      obtain ⟨_, h99, rfl⟩ := (hk 14 (by decide)).put rfl rfl
      obtain ⟨_, h100, rfl⟩ := (hk 15 (by decide)).put rfl rfl
      obtain ⟨_, h101, rfl⟩ := (hk 16 (by decide)).put rfl rfl
      obtain ⟨_, h102, rfl⟩ := (hk 17 (by decide)).put rfl rfl
      obtain ⟨_, h103, rfl⟩ := (hk 18 (by decide)).put rfl rfl
      obtain ⟨_, h104, rfl⟩ := (hk 19 (by decide)).put rfl rfl
      obtain ⟨_, h105, rfl⟩ := (hk 20 (by decide)).put rfl rfl
      obtain ⟨_, h106, rfl⟩ := (hk 21 (by decide)).put rfl rfl
      obtain ⟨_, h107, rfl⟩ := (hk 22 (by decide)).put rfl rfl
      obtain ⟨_, h108, rfl⟩ := (hk 23 (by decide)).put rfl rfl
      obtain ⟨_, h109, rfl⟩ := (hk 24 (by decide)).put rfl rfl
      obtain ⟨_, h110, rfl⟩ := (hk 25 (by decide)).put rfl rfl
      obtain ⟨_, h111, rfl⟩ := (hk 26 (by decide)).put rfl rfl
      obtain ⟨_, h112, rfl⟩ := (hk 27 (by decide)).put rfl rfl
      obtain ⟨_, h113, rfl⟩ := (hk 28 (by decide)).put rfl rfl
      obtain ⟨_, h114, rfl⟩ := (hk 29 (by decide)).put rfl rfl
      clear hap
      have hF : AllPuts ac.tmps ((85, _) :: (86, _) :: (87, _) :: (88, _) :: (89, _) :: (90, _) :: (91, _) :: (92, _) :: (93, _) :: (94, _) :: (95, _) :: (96, _) :: (97, _) :: (98, _) :: (99, _) :: (100, _) :: (101, _) :: (102, _) :: (103, _) :: (104, _) :: (105, _) :: (106, _) :: (107, _) :: (108, _) :: (109, _) :: (110, _) :: (111, _) :: (112, _) :: (113, _) :: (114, _) :: []) := ⟨h85, h86, h87, h88, h89, h90, h91, h92, h93, h94, h95, h96, h97, h98, h99, h100, h101, h102, h103, h104, h105, h106, h107, h108, h109, h110, h111, h112, h113, h114, trivial⟩
      obtain rfl := frame_puts hu (by kernel_rfl) hF
      simp only [puts, Act.put, List.setIfInBounds_toArray, List.set_cons_zero, List.set_cons_succ, List.drop_succ_cons, List.drop_zero]
      clear hk hu hF h85 h86 h87 h88 h89 h90 h91 h92 h93 h94 h95 h96 h97 h98 h99 h100 h101 h102 h103 h104 h105 h106 h107 h108 h109 h110 h111 h112 h113 h114
      have HBE := Lib.hid (HBW.out.trans (hb.mono HBW.out.size))
      clear hb
      go_wp2_with fail
      go_ret
      exact ⟨by first | rfl | kernel_rfl, HBE.out⟩

set_option maxRecDepth 100000 in
theorem contract (H : Type) (enc : TypeId × Value → H) (W : World) (base : Nat) (args : Array Value) (ds gs : List (DataW H)) (before : List MemPlace)
    (hval : ∀ (j : Nat) t v, Tryd.f3.params[j]? = some t → args[j]? = some v → Value.okWide Tryd.prog W .any base t v)
    (hW : DataW.Whole enc Tryd.prog Tryd.f3.params.toList Rows.mssTrueSpec.vars false W args.toList ds gs before) (hL : laidMetH Tryd.prog Rows.mssTrueRow.laid W) :
    Calls Tryd.prog 3 args W fun e W' => ∃ v, e = .returned v ∧ Rows.mssTrueSpec.post enc Tryd.prog Tryd.f3 false true false false W args v W' := by
  have hW' := hW
  obtain ⟨p, q, hA0, hV, rfl, hfz, hnd⟩ := hW
  have hA : DataW.TrodAll enc Tryd.prog W 0 (fun _ => true) true Tryd.f3.params.toList args.toList ds p := hA0
  rw [Tryd.params3] at hA hval
  obtain ⟨v0, v1, v2, v3, v4, d0, d1, d2, d3, d4, p0, p1, p2, p3, p4, rfl, rfl, rfl, h0, h1, h2, h3, h4⟩ := trodAll_five hA
  obtain ⟨rfl, rfl⟩ := trodVars_none hV
  obtain ⟨k0, rfl, hk0⟩ := open_array Tryd.underlying23 (by kernel_rfl) (hval 0 23 v0 rfl rfl) h0
  obtain ⟨k1, rfl, hk1⟩ := open_array Tryd.underlying23 (by kernel_rfl) (hval 1 23 v1 rfl rfl) h1
  obtain ⟨n2, rfl, rfl, rfl, wf2⟩ := open_int Tryd.underlying3 (hval 2 3 v2 rfl rfl) h2
  have b2 := bounds_i64 wf2
  obtain ⟨n3, rfl, rfl, rfl, wf3⟩ := open_int Tryd.underlying3 (hval 3 3 v3 rfl rfl) h3
  have b3 := bounds_i64 wf3
  obtain ⟨A4, m4, c4, l4, rfl, hl4, hc4, hm4, hr4⟩ := open_bytes (hval 4 24 v4 rfl rfl) h4
  clear hA0
  refine (walk k0 k1 n2 n3 A4 m4 c4 l4 W hk0 hk1 b2.1 b2.2 b3.1 b3.2 hl4 hc4 hm4 hr4 (pow10 hL)).mono fun e W' ⟨he, hb⟩ => ?_
  exact ⟨_, he, law_post hW' rfl (by kernel_rfl) rfl (by kernel_rfl) hb⟩

theorem laid_met (os : Os) : laidMet Tryd.prog Rows.mssTrueRow.laid ((laidWorld os).forCall (fun _ _ => 0) ⟨#[], #[.agg #[.int .u8 0, .int .u8 0, .int .u8 0, .int .u8 0, .int .u8 0, .int .u8 0, .int .u8 0, .int .u8 0, .int .u8 0, .int .u8 0, .int .u8 0, .int .u8 0, .int .u8 0, .int .u8 0, .int .u8 0, .int .u8 0], .agg #[.int .u8 0, .int .u8 0, .int .u8 0, .int .u8 0, .int .u8 0, .int .u8 0, .int .u8 0, .int .u8 0, .int .u8 0, .int .u8 0, .int .u8 0, .int .u8 0, .int .u8 0, .int .u8 0, .int .u8 0, .int .u8 0], .int .i64 0, .int .i64 0, .slice none 0 0], []⟩).memory :=
  laidMet_of_run' 8 (by kernel_rfl) (by kernel_rfl)
theorem reads (os : Os) {H : Type} (enc : TypeId × Value → H) : ∃ places, DataW.whole enc Tryd.prog ((laidWorld os).forCall (fun _ _ => 0) ⟨#[], #[.agg #[.int .u8 0, .int .u8 0, .int .u8 0, .int .u8 0, .int .u8 0, .int .u8 0, .int .u8 0, .int .u8 0, .int .u8 0, .int .u8 0, .int .u8 0, .int .u8 0, .int .u8 0, .int .u8 0, .int .u8 0, .int .u8 0], .agg #[.int .u8 0, .int .u8 0, .int .u8 0, .int .u8 0, .int .u8 0, .int .u8 0, .int .u8 0, .int .u8 0, .int .u8 0, .int .u8 0, .int .u8 0, .int .u8 0, .int .u8 0, .int .u8 0, .int .u8 0, .int .u8 0], .int .i64 0, .int .i64 0, .slice none 0 0], []⟩).memory Tryd.f3.params.toList Rows.mssTrueSpec.vars false #[Value.agg #[.int .u8 0, .int .u8 0, .int .u8 0, .int .u8 0, .int .u8 0, .int .u8 0, .int .u8 0, .int .u8 0, .int .u8 0, .int .u8 0, .int .u8 0, .int .u8 0, .int .u8 0, .int .u8 0, .int .u8 0, .int .u8 0], Value.agg #[.int .u8 0, .int .u8 0, .int .u8 0, .int .u8 0, .int .u8 0, .int .u8 0, .int .u8 0, .int .u8 0, .int .u8 0, .int .u8 0, .int .u8 0, .int .u8 0, .int .u8 0, .int .u8 0, .int .u8 0, .int .u8 0], Value.int .i64 0, Value.int .i64 0, Value.slice none 0 0].toList 8 = some ([.agg [.lit (.int .u8 0), .lit (.int .u8 0), .lit (.int .u8 0), .lit (.int .u8 0), .lit (.int .u8 0), .lit (.int .u8 0), .lit (.int .u8 0), .lit (.int .u8 0), .lit (.int .u8 0), .lit (.int .u8 0), .lit (.int .u8 0), .lit (.int .u8 0), .lit (.int .u8 0), .lit (.int .u8 0), .lit (.int .u8 0), .lit (.int .u8 0)], .agg [.lit (.int .u8 0), .lit (.int .u8 0), .lit (.int .u8 0), .lit (.int .u8 0), .lit (.int .u8 0), .lit (.int .u8 0), .lit (.int .u8 0), .lit (.int .u8 0), .lit (.int .u8 0), .lit (.int .u8 0), .lit (.int .u8 0), .lit (.int .u8 0), .lit (.int .u8 0), .lit (.int .u8 0), .lit (.int .u8 0), .lit (.int .u8 0)], .lit (.int .i64 0), .lit (.int .i64 0), .nil], [], places) :=
  ⟨[], by kernel_rfl⟩

set_option maxRecDepth 100000 in
theorem lifted (os : Os) (started : os.Started) (H : Type) (enc : TypeId × Value → H) (F : Stop.Interp) :
    ReturnsInHanded {} Tryd.checked os 3 .any ((OpenSpec.ofChange Rows.mssTrueSpec).preRow enc Tryd.prog Tryd.f3 Rows.mssTrueRow.domain false Rows.mssTrueRow.laid) (((OpenSpec.ofChange Rows.mssTrueSpec).at F).post enc Tryd.prog Tryd.f3 false true false false) := by
  obtain ⟨places, hx⟩ := reads os enc
  refine returnsInHanded_of_row (C := Tryd.checked) (s := OpenSpec.ofChange Rows.mssTrueSpec) own started (by kernel_rfl) Tryd.func3
    (witness_row_at (enc := enc) (C := Tryd.checked) false (laidWorld os) #[.agg #[.int .u8 0, .int .u8 0, .int .u8 0, .int .u8 0, .int .u8 0, .int .u8 0, .int .u8 0, .int .u8 0, .int .u8 0, .int .u8 0, .int .u8 0, .int .u8 0, .int .u8 0, .int .u8 0, .int .u8 0, .int .u8 0], .agg #[.int .u8 0, .int .u8 0, .int .u8 0, .int .u8 0, .int .u8 0, .int .u8 0, .int .u8 0, .int .u8 0, .int .u8 0, .int .u8 0, .int .u8 0, .int .u8 0, .int .u8 0, .int .u8 0, .int .u8 0, .int .u8 0], .int .i64 0, .int .i64 0, .slice none 0 0] rfl (by kernel_rfl) (by kernel_rfl) (by kernel_rfl)
      (OpenSpec.preRow_of_cond 8 hx (by kernel_rfl) (fun k hk => by cases hk) (by kernel_rfl) (laid_met os))) ?_
  intro W base args ds gs before hval hW _ _ _ hL _ _
  exact contract H enc W base args ds gs before hval hW hL

theorem said : Rows.MssTrueSaid :=
  OpenClaim.holds_of_cond 3 Tryd.f3 rfl rfl rfl rfl rfl rfl rfl ⟨rfl, rfl, rfl, rfl, rfl⟩ rfl rfl rfl rfl rfl (by kernel_rfl) Tryd.func3 (by kernel_rfl)
    (of_decide_eq_true (by kernel_rfl)) (by unfold Func.isWrapper; first | (rw [if_pos (by decide +kernel)]; kernel_rfl) | (rw [if_neg (by decide +kernel)]; exact ⟨rfl, rfl⟩))
    (fun os started H enc _ F => by rw [OpenClaim.pre_eq_preRow]; exact lifted os started H enc F)

theorem plain (f : FuncId) (fn : Func) (hf : Tryd.pinned.checked.prog.funcNamed "aumbry/aumbrylaw09.MssTrue" = some f) (hfn : Tryd.pinned.checked.prog.funcs[f]? = some fn) :
    false = Tryd.pinned.checked.prog.looks [] ∧ ∀ (j : Nat) t, fn.params[j]? = some t → Tryd.pinned.checked.prog.wantsStandIn t = false := by
  obtain rfl : f = 3 := Option.some.inj ((show Tryd.prog.funcNamed "aumbry/aumbrylaw09.MssTrue" = some 3 by kernel_rfl).symm.trans hf) |>.symm
  obtain rfl : fn = Tryd.f3 := (Option.some.inj (Tryd.func3.symm.trans hfn)).symm
  refine ⟨by kernel_rfl, fun j t ht => ?_⟩
  exact wants_none (by kernel_rfl) (Array.mem_of_getElem? ht)

/-- The card: the statement holds, its listed tables tied to the program's text. -/
theorem card : Rows.MssTrueCardSaid :=
  Claim7.holds_tied_plain_at .later [] _ _ _ _ said (fun _ h => by cases h) (by kernel_rfl) (fun _ h => by cases h) mssTrue_row_tie rfl ⟨rfl, rfl⟩ (by kernel_rfl) rfl plain (by kernel_rfl)
end Go.Proofs.YtfgieebccjoboaaDoor.mssTrue
