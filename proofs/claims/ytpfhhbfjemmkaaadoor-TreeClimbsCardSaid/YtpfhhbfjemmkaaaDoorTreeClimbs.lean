/- TreeClimbs: the root that any leaf and proof make, or that there is none. For all numbers, hashes and proofs. -/
import Derived.Test.YtpfhhbfjemmkaaaDoorLaw7
import Derived.Test.YtpfhhbfjemmkaaaDoorSix
import Derived.Test.YtpfhhbfjemmkaaaDoorPTAll
import Derived.Test.YtpfhhbfjemmkaaaDoorTree7
namespace Go.Proofs.YtpfhhbfjemmkaaaDoor.treeClimbs
open Go.ChangeShapes Go.WideShapes Go.ChangeAt Go.RowKit

set_option maxRecDepth 100000 in
set_option maxHeartbeats 16000000 in
theorem walk (n i : Int) (lf rt : List UInt8) (A : Option Addr) (m c : Nat) (l : List (List UInt8)) (w : World) (hlf : lf.length = 32) (hrt : rt.length = 32) (hl : l.length = m) (hc : m ≤ c) (hz : ∀ r ∈ l, r.length = 32) (hr : RdH w w.heap.size A l) (htab : Pow10 w.heap.size w) :
    Calls Tryd.prog 7 #[.int .i64 n, .int .i64 i, .agg (u8A lf), .agg (u8A rt), .slice A m c] w fun e w' => e = .returned (.bool true) ∧ Below w.heap.size w w' := by
  obtain ⟨z, ks, hcut, hkz, hz12, hzc, hkl, hkr⟩ := cut7 A m c 12 12 rfl l w hl hc hz hr
  have HCUT := Lib.hid hcut
  have HT := Lib.hid htab
  obtain ⟨X, hX⟩ : ∃ X, u8A lf = X := ⟨_, rfl⟩
  have HEX := Lib.hid hX
  obtain ⟨Y, hY⟩ : ∃ X, u8A rt = X := ⟨_, rfl⟩
  have HEY := Lib.hid hY
  obtain ⟨V, hV⟩ : ∃ X, u8A (climbV n i lf ks) = X := ⟨_, rfl⟩
  have HEV := Lib.hid hV
  obtain ⟨K, hK⟩ : ∃ X, decide (climbOK n i ks.length) = X := ⟨_, rfl⟩
  have HEK := Lib.hid hK
  have hvl : (climbV n i lf ks).length = 32 := climbV_len hlf ks
  have HZX := Lib.hid (show X.size = 32 by rw [← hX, u8A_size]; exact hlf)
  have HIX := Lib.hid (show (Tryd.prog.info? 25).map (·.size) = some X.size by rw [HZX.out]; kernel_rfl)
  have HOX := Lib.hid (show X.all (·.oneCell') = true by rw [← hX]; exact u8A_one _)
  have HZY := Lib.hid (show Y.size = 32 by rw [← hY, u8A_size]; exact hrt)
  have HIY := Lib.hid (show (Tryd.prog.info? 25).map (·.size) = some Y.size by rw [HZY.out]; kernel_rfl)
  have HOY := Lib.hid (show Y.all (·.oneCell') = true by rw [← hY]; exact u8A_one _)
  have HZV := Lib.hid (show V.size = 32 by rw [← hV, u8A_size]; exact hvl)
  have HIV := Lib.hid (show (Tryd.prog.info? 25).map (·.size) = some V.size by rw [HZV.out]; kernel_rfl)
  have HOV := Lib.hid (show V.all (·.oneCell') = true by rw [← hV]; exact u8A_one _)
  have HCL := Lib.hid (fun W (h : Below w.heap.size w W) => (show Calls Tryd.prog 16 #[.int .i64 n, .int .i64 i, .agg X, .slice A z c] W fun e w' => e = .returned (.tuple #[.agg V, .bool K]) ∧ Below W.heap.size W w' from by
    rw [← hX, ← hV, ← hK]
    exact pclimb_any n i lf A z c ks W hkz (by omega) hlf hkl (hkr.on h) (tab_in htab h)))
  have HCR := Lib.hid (fun W (h : Below w.heap.size w W) => (show Calls Tryd.prog 30 #[.int .i64 n, .int .i64 i, .agg X, .slice A z c] W fun e w' => e = .returned (.tuple #[.agg V, .bool K]) ∧ Below W.heap.size W w' from by
    rw [← hX, ← hV, ← hK]
    exact rclimb7_any n i lf A z c ks W hkz (by omega) hlf hkl (hkr.on h)))
  have HC0 := Lib.hid (fun W (h : Below w.heap.size w W) => (show Calls Tryd.prog 17 #[.agg Y, .int .i64 n, .int .i64 i, .agg X, .slice A z c] W fun e w' => e = .returned (.bool (decide (climbOK n i ks.length ∧ climbV n i lf ks = rt))) ∧ Below W.heap.size W w' from by
    rw [← hX, ← hY]
    exact pcheck_any rt n i lf A z c ks W hrt hkz (by omega) hlf hkl (hkr.on h) (tab_in htab h)))
  have HC2 := Lib.hid (fun W (h : Below w.heap.size w W) => (show Calls Tryd.prog 17 #[.agg V, .int .i64 n, .int .i64 i, .agg X, .slice A z c] W fun e w' => e = .returned (.bool K) ∧ Below W.heap.size W w' from by
    have h := pcheck_any (climbV n i lf ks) n i lf A z c ks W hvl hkz (by omega) hlf hkl (hkr.on h) (tab_in htab h)
    rw [show decide (climbOK n i ks.length ∧ climbV n i lf ks = climbV n i lf ks) = K by
      rw [← hK]
      exact decide_eq_decide.2 ⟨fun h => h.1, fun h => ⟨h, rfl⟩⟩] at h
    rw [← hX, ← hV]
    exact h))
  have HVV := Lib.hid (fun W => (show (Op.equalIn 10000 25 (.agg V) (.agg V)).run Tryd.prog W = .ok true W by rw [← hV, run_hash_eq W _ _ hvl hvl, decide_eq_true rfl]))
  have HVY := Lib.hid (fun W => (show (Op.equalIn 10000 25 (.agg V) (.agg Y)).run Tryd.prog W = .ok (decide (climbV n i lf ks = rt)) W by rw [← hV, ← hY, run_hash_eq W _ _ hvl hrt]))
  rw [hX, hY]
  clear hX hY hV hK hvl hkz hkl hkr hcut hl hc hz hr htab
  go_enter Tryd.func7, Tryd.ntmps7
  go_upto_region 1 with fail
  generalize hw3 : World.alloc _ _ = w3
  obtain ⟨g7, hg7⟩ : ∃ g, w.heap.size = g := ⟨_, rfl⟩
  obtain ⟨g8, hg8⟩ : ∃ g, w.heap.size + 1 = g := ⟨_, rfl⟩
  have hf : Blk w3 g7 X 25 ∧ Blk w3 g8 Y 25 ∧ Below w.heap.size w w3 := by
    have e1 : (w.alloc (.cells X 25)).heap.size = w.heap.size + 1 := by simp
    rw [← hw3, ← hg7, ← hg8]
    refine ⟨(Blk.new w _ _).alloc _, ?_, ((Below.refl _ _).alloc (Nat.le_refl _) _).alloc (by simp) _⟩
    rw [← e1]; exact Blk.new _ _ _
  have HB7 := Lib.hid hf.1
  have HB8 := Lib.hid hf.2.1
  have HBW := Lib.hid hf.2.2
  clear hf hw3
  rw [hg8, hg7]
  clear hg8 hg7
  go_wp2_with fail
  with_reducible refine (HCUT.out _).mono ?_
  rintro e wx ⟨rfl, rfl⟩
  go_wp2_with (refine wpList_load_w (.tmp 7) rfl g7 rfl X HB7.out HZX.out ?_ ?_; · rfl)
  with_reducible refine (HCL.out w3 HBW.out).mono ?_
  rintro e w4 ⟨rfl, hb⟩
  replace HB7 := Lib.hid (HB7.out.below hb HB7.out.lt)
  replace HB8 := Lib.hid (HB8.out.below hb HB8.out.lt)
  replace HBW := Lib.hid (HBW.out.trans (hb.mono HBW.out.size))
  clear hb
  go_upto_region 3 with (with_reducible refine wpList_store_blk rfl 25 (.tmp 11) (.tmp 23) rfl w4.heap.size V rfl rfl 25 _ (Blk.new _ _ _) (by rw [HZV.out]; kernel_rfl) (by rw [HZV.out]; kernel_rfl) HOV.out ?_)
  generalize hww5 : World.setRow _ _ _ = w5
  have hal : Below w4.heap.size w4 w5 := by
    rw [← hww5]
    exact below_row ((Below.refl _ _).alloc (Nat.le_refl _) _) (by simp) (Nat.le_refl _) _
  have HB11 := Lib.hid (show Blk w5 w4.heap.size V 25 by
    rw [← hww5]
    exact (Blk.new _ _ _).row _)
  replace HB7 := Lib.hid (HB7.out.below hal HB7.out.lt)
  replace HB8 := Lib.hid (HB8.out.below hal HB8.out.lt)
  replace HBW := Lib.hid (HBW.out.trans (hal.mono HBW.out.size))
  clear hal hww5
  go_wp2_with (refine wpList_load_w (.tmp 7) rfl g7 rfl X HB7.out HZX.out ?_ ?_; · rfl)
  with_reducible refine (HCR.out w5 HBW.out).mono ?_
  rintro e w6 ⟨rfl, hb⟩
  replace HB7 := Lib.hid (HB7.out.below hb HB7.out.lt)
  replace HB8 := Lib.hid (HB8.out.below hb HB8.out.lt)
  replace HB11 := Lib.hid (HB11.out.below hb HB11.out.lt)
  replace HBW := Lib.hid (HBW.out.trans (hb.mono HBW.out.size))
  clear hb
  go_upto_region 4 with (with_reducible refine wpList_store_blk rfl 25 (.tmp 13) (.tmp 31) rfl w6.heap.size V rfl rfl 25 _ (Blk.new _ _ _) (by rw [HZV.out]; kernel_rfl) (by rw [HZV.out]; kernel_rfl) HOV.out ?_)
  generalize hww7 : World.setRow _ _ _ = w7
  have hal : Below w6.heap.size w6 w7 := by
    rw [← hww7]
    exact below_row ((Below.refl _ _).alloc (Nat.le_refl _) _) (by simp) (Nat.le_refl _) _
  have HB13 := Lib.hid (show Blk w7 w6.heap.size V 25 by
    rw [← hww7]
    exact (Blk.new _ _ _).row _)
  replace HB7 := Lib.hid (HB7.out.below hal HB7.out.lt)
  replace HB8 := Lib.hid (HB8.out.below hal HB8.out.lt)
  replace HB11 := Lib.hid (HB11.out.below hal HB11.out.lt)
  replace HBW := Lib.hid (HBW.out.trans (hal.mono HBW.out.size))
  clear hal hww7
  clear HCL HCR HCUT
  have heq := HVV.out
  cases K with
  | false =>
    have HC1 := Lib.hid (fun W (h : Below w.heap.size w W) => (show Calls Tryd.prog 17 #[.agg Y, .int .i64 n, .int .i64 i, .agg X, .slice A z c] W fun e w' => e = .returned (.bool false) ∧ Below W.heap.size W w' from by
      have h := HC0.out W h
      rw [decide_eq_false (fun h => of_decide_eq_false HEK.out h.1)] at h
      exact h))
    clear HC0 HVY
    go_wp2_with (first
        | (refine wpList_load_w (.tmp 7) rfl g7 rfl X HB7.out HZX.out ?_ ?_; · rfl)
        | (refine wpList_load_w (.tmp 8) rfl g8 rfl Y HB8.out HZY.out ?_ ?_; · rfl)
        | (refine wpList_load_w (.tmp 11) rfl w4.heap.size rfl V HB11.out HZV.out ?_ ?_; · rfl)
        | (refine wpList_load_w (.tmp 13) rfl w6.heap.size rfl V HB13.out HZV.out ?_ ?_; · rfl))
    with_reducible refine (HC1.out w7 HBW.out).mono ?_
    rintro e w8 ⟨rfl, hb⟩
    replace HB7 := Lib.hid (HB7.out.below hb HB7.out.lt)
    replace HB8 := Lib.hid (HB8.out.below hb HB8.out.lt)
    replace HB11 := Lib.hid (HB11.out.below hb HB11.out.lt)
    replace HB13 := Lib.hid (HB13.out.below hb HB13.out.lt)
    replace HBW := Lib.hid (HBW.out.trans (hb.mono HBW.out.size))
    clear hb
    go_wp2_with (first
        | (refine wpList_load_w (.tmp 7) rfl g7 rfl X HB7.out HZX.out ?_ ?_; · rfl)
        | (refine wpList_load_w (.tmp 8) rfl g8 rfl Y HB8.out HZY.out ?_ ?_; · rfl)
        | (refine wpList_load_w (.tmp 11) rfl w4.heap.size rfl V HB11.out HZV.out ?_ ?_; · rfl)
        | (refine wpList_load_w (.tmp 13) rfl w6.heap.size rfl V HB13.out HZV.out ?_ ?_; · rfl))
    with_reducible refine (HC2.out w8 HBW.out).mono ?_
    rintro e w9 ⟨rfl, hb⟩
    replace HB7 := Lib.hid (HB7.out.below hb HB7.out.lt)
    replace HB8 := Lib.hid (HB8.out.below hb HB8.out.lt)
    replace HB11 := Lib.hid (HB11.out.below hb HB11.out.lt)
    replace HB13 := Lib.hid (HB13.out.below hb HB13.out.lt)
    replace HBW := Lib.hid (HBW.out.trans (hb.mono HBW.out.size))
    clear hb
    go_wp2_with fail
    with_reducible refine (wakes7_any w9 (tab_in HT.out HBW.out)).mono ?_
    rintro e w10 ⟨rfl, hb⟩
    replace HBW := Lib.hid (HBW.out.trans (hb.mono HBW.out.size))
    clear hb
    go_wp2_with fail
    go_ret
    exact ⟨by kernel_rfl, HBW.out⟩
  | true =>
    have hok := of_decide_eq_true HEK.out
    by_cases hvr : climbV n i lf ks = rt
    · have heq2 := fun W => (HVY.out W).trans (by rw [decide_eq_true hvr])
      have HC1 := Lib.hid (fun W (h : Below w.heap.size w W) => (show Calls Tryd.prog 17 #[.agg Y, .int .i64 n, .int .i64 i, .agg X, .slice A z c] W fun e w' => e = .returned (.bool true) ∧ Below W.heap.size W w' from by
        have h := HC0.out W h
        rw [decide_eq_true ⟨hok, hvr⟩] at h
        exact h))
      clear HC0 HVY hok hvr
      go_wp2_with (first
          | (refine wpList_load_w (.tmp 7) rfl g7 rfl X HB7.out HZX.out ?_ ?_; · rfl)
          | (refine wpList_load_w (.tmp 8) rfl g8 rfl Y HB8.out HZY.out ?_ ?_; · rfl)
          | (refine wpList_load_w (.tmp 11) rfl w4.heap.size rfl V HB11.out HZV.out ?_ ?_; · rfl)
          | (refine wpList_load_w (.tmp 13) rfl w6.heap.size rfl V HB13.out HZV.out ?_ ?_; · rfl))
      with_reducible refine (HC1.out w7 HBW.out).mono ?_
      rintro e w8 ⟨rfl, hb⟩
      replace HB7 := Lib.hid (HB7.out.below hb HB7.out.lt)
      replace HB8 := Lib.hid (HB8.out.below hb HB8.out.lt)
      replace HB11 := Lib.hid (HB11.out.below hb HB11.out.lt)
      replace HB13 := Lib.hid (HB13.out.below hb HB13.out.lt)
      replace HBW := Lib.hid (HBW.out.trans (hb.mono HBW.out.size))
      clear hb
      go_wp2_with (first
          | (refine wpList_load_w (.tmp 7) rfl g7 rfl X HB7.out HZX.out ?_ ?_; · rfl)
          | (refine wpList_load_w (.tmp 8) rfl g8 rfl Y HB8.out HZY.out ?_ ?_; · rfl)
          | (refine wpList_load_w (.tmp 11) rfl w4.heap.size rfl V HB11.out HZV.out ?_ ?_; · rfl)
          | (refine wpList_load_w (.tmp 13) rfl w6.heap.size rfl V HB13.out HZV.out ?_ ?_; · rfl))
      with_reducible refine (HC2.out w8 HBW.out).mono ?_
      rintro e w9 ⟨rfl, hb⟩
      replace HB7 := Lib.hid (HB7.out.below hb HB7.out.lt)
      replace HB8 := Lib.hid (HB8.out.below hb HB8.out.lt)
      replace HB11 := Lib.hid (HB11.out.below hb HB11.out.lt)
      replace HB13 := Lib.hid (HB13.out.below hb HB13.out.lt)
      replace HBW := Lib.hid (HBW.out.trans (hb.mono HBW.out.size))
      clear hb
      go_wp2_with fail
      with_reducible refine (wakes7_any w9 (tab_in HT.out HBW.out)).mono ?_
      rintro e w10 ⟨rfl, hb⟩
      replace HBW := Lib.hid (HBW.out.trans (hb.mono HBW.out.size))
      clear hb
      go_wp2_with fail
      go_ret
      exact ⟨by kernel_rfl, HBW.out⟩
    · have heq2 := fun W => (HVY.out W).trans (by rw [decide_eq_false hvr])
      have HC1 := Lib.hid (fun W (h : Below w.heap.size w W) => (show Calls Tryd.prog 17 #[.agg Y, .int .i64 n, .int .i64 i, .agg X, .slice A z c] W fun e w' => e = .returned (.bool false) ∧ Below W.heap.size W w' from by
        have h := HC0.out W h
        rw [decide_eq_false (fun h => hvr h.2)] at h
        exact h))
      clear HC0 HVY hok hvr
      go_wp2_with (first
          | (refine wpList_load_w (.tmp 7) rfl g7 rfl X HB7.out HZX.out ?_ ?_; · rfl)
          | (refine wpList_load_w (.tmp 8) rfl g8 rfl Y HB8.out HZY.out ?_ ?_; · rfl)
          | (refine wpList_load_w (.tmp 11) rfl w4.heap.size rfl V HB11.out HZV.out ?_ ?_; · rfl)
          | (refine wpList_load_w (.tmp 13) rfl w6.heap.size rfl V HB13.out HZV.out ?_ ?_; · rfl))
      with_reducible refine (HC1.out w7 HBW.out).mono ?_
      rintro e w8 ⟨rfl, hb⟩
      replace HB7 := Lib.hid (HB7.out.below hb HB7.out.lt)
      replace HB8 := Lib.hid (HB8.out.below hb HB8.out.lt)
      replace HB11 := Lib.hid (HB11.out.below hb HB11.out.lt)
      replace HB13 := Lib.hid (HB13.out.below hb HB13.out.lt)
      replace HBW := Lib.hid (HBW.out.trans (hb.mono HBW.out.size))
      clear hb
      go_wp2_with (first
          | (refine wpList_load_w (.tmp 7) rfl g7 rfl X HB7.out HZX.out ?_ ?_; · rfl)
          | (refine wpList_load_w (.tmp 8) rfl g8 rfl Y HB8.out HZY.out ?_ ?_; · rfl)
          | (refine wpList_load_w (.tmp 11) rfl w4.heap.size rfl V HB11.out HZV.out ?_ ?_; · rfl)
          | (refine wpList_load_w (.tmp 13) rfl w6.heap.size rfl V HB13.out HZV.out ?_ ?_; · rfl))
      with_reducible refine (HC2.out w8 HBW.out).mono ?_
      rintro e w9 ⟨rfl, hb⟩
      replace HB7 := Lib.hid (HB7.out.below hb HB7.out.lt)
      replace HB8 := Lib.hid (HB8.out.below hb HB8.out.lt)
      replace HB11 := Lib.hid (HB11.out.below hb HB11.out.lt)
      replace HB13 := Lib.hid (HB13.out.below hb HB13.out.lt)
      replace HBW := Lib.hid (HBW.out.trans (hb.mono HBW.out.size))
      clear hb
      go_wp2_with fail
      with_reducible refine (wakes7_any w9 (tab_in HT.out HBW.out)).mono ?_
      rintro e w10 ⟨rfl, hb⟩
      replace HBW := Lib.hid (HBW.out.trans (hb.mono HBW.out.size))
      clear hb
      go_wp2_with fail
      go_ret
      exact ⟨by kernel_rfl, HBW.out⟩

set_option maxRecDepth 100000 in
theorem contract (H : Type) (enc : TypeId × Value → H) (W : World) (base : Nat) (args : Array Value) (ds gs : List (DataW H)) (before : List MemPlace)
    (hval : ∀ (j : Nat) t v, Tryd.f7.params[j]? = some t → args[j]? = some v → Value.okWide Tryd.prog W .any base t v)
    (hW : DataW.Whole enc Tryd.prog Tryd.f7.params.toList Rows.treeClimbsSpec.vars false W args.toList ds gs before) (hL : laidMetH Tryd.prog Rows.treeClimbsRow.laid W) :
    Calls Tryd.prog 7 args W fun e W' => ∃ v, e = .returned v ∧ Rows.treeClimbsSpec.post enc Tryd.prog Tryd.f7 false true false false W args v W' := by
  have hW' := hW
  obtain ⟨p, q, hA0, hV, rfl, hfz, hnd⟩ := hW
  have hA : DataW.TrodAll enc Tryd.prog W 0 (fun _ => true) true Tryd.f7.params.toList args.toList ds p := hA0
  rw [Tryd.params7] at hA hval
  obtain ⟨v0, v1, v2, v3, v4, d0, d1, d2, d3, d4, p0, p1, p2, p3, p4, rfl, rfl, rfl, h0, h1, h2, h3, h4⟩ := trodAll_five hA
  obtain ⟨rfl, rfl⟩ := trodVars_none hV
  obtain ⟨n0, rfl, rfl, rfl, wf0⟩ := open_int Tryd.underlying3 (hval 0 3 v0 rfl rfl) h0
  have b0 := bounds_i64 wf0
  obtain ⟨n1, rfl, rfl, rfl, wf1⟩ := open_int Tryd.underlying3 (hval 1 3 v1 rfl rfl) h1
  have b1 := bounds_i64 wf1
  obtain ⟨k2, rfl, hk2⟩ := open_array Tryd.underlying25 (by kernel_rfl) (hval 2 25 v2 rfl rfl) h2
  obtain ⟨k3, rfl, hk3⟩ := open_array Tryd.underlying25 (by kernel_rfl) (hval 3 25 v3 rfl rfl) h3
  obtain ⟨A4, m4, c4, l4, rfl, hl4, hc4, hm4, hz4, hr4⟩ := open_hashes (hval 4 23 v4 rfl rfl) h4
  clear hA0
  refine (walk n0 n1 k2 k3 A4 m4 c4 l4 W hk2 hk3 hl4 hc4 hz4 hr4 (pow10 hL)).mono fun e W' ⟨he, hb⟩ => ?_
  exact ⟨_, he, law_post hW' rfl (by kernel_rfl) rfl (by kernel_rfl) hb⟩

theorem laid_met (os : Os) : laidMet Tryd.prog Rows.treeClimbsRow.laid ((laidWorld os).forCall (fun _ _ => 0) ⟨#[], #[.int .i64 0, .int .i64 0, .agg #[.int .u8 0, .int .u8 0, .int .u8 0, .int .u8 0, .int .u8 0, .int .u8 0, .int .u8 0, .int .u8 0, .int .u8 0, .int .u8 0, .int .u8 0, .int .u8 0, .int .u8 0, .int .u8 0, .int .u8 0, .int .u8 0, .int .u8 0, .int .u8 0, .int .u8 0, .int .u8 0, .int .u8 0, .int .u8 0, .int .u8 0, .int .u8 0, .int .u8 0, .int .u8 0, .int .u8 0, .int .u8 0, .int .u8 0, .int .u8 0, .int .u8 0, .int .u8 0], .agg #[.int .u8 0, .int .u8 0, .int .u8 0, .int .u8 0, .int .u8 0, .int .u8 0, .int .u8 0, .int .u8 0, .int .u8 0, .int .u8 0, .int .u8 0, .int .u8 0, .int .u8 0, .int .u8 0, .int .u8 0, .int .u8 0, .int .u8 0, .int .u8 0, .int .u8 0, .int .u8 0, .int .u8 0, .int .u8 0, .int .u8 0, .int .u8 0, .int .u8 0, .int .u8 0, .int .u8 0, .int .u8 0, .int .u8 0, .int .u8 0, .int .u8 0, .int .u8 0], .slice none 0 0], []⟩).memory :=
  laidMet_of_run' 8 (by kernel_rfl) (by kernel_rfl)
theorem reads (os : Os) {H : Type} (enc : TypeId × Value → H) : ∃ places, DataW.whole enc Tryd.prog ((laidWorld os).forCall (fun _ _ => 0) ⟨#[], #[.int .i64 0, .int .i64 0, .agg #[.int .u8 0, .int .u8 0, .int .u8 0, .int .u8 0, .int .u8 0, .int .u8 0, .int .u8 0, .int .u8 0, .int .u8 0, .int .u8 0, .int .u8 0, .int .u8 0, .int .u8 0, .int .u8 0, .int .u8 0, .int .u8 0, .int .u8 0, .int .u8 0, .int .u8 0, .int .u8 0, .int .u8 0, .int .u8 0, .int .u8 0, .int .u8 0, .int .u8 0, .int .u8 0, .int .u8 0, .int .u8 0, .int .u8 0, .int .u8 0, .int .u8 0, .int .u8 0], .agg #[.int .u8 0, .int .u8 0, .int .u8 0, .int .u8 0, .int .u8 0, .int .u8 0, .int .u8 0, .int .u8 0, .int .u8 0, .int .u8 0, .int .u8 0, .int .u8 0, .int .u8 0, .int .u8 0, .int .u8 0, .int .u8 0, .int .u8 0, .int .u8 0, .int .u8 0, .int .u8 0, .int .u8 0, .int .u8 0, .int .u8 0, .int .u8 0, .int .u8 0, .int .u8 0, .int .u8 0, .int .u8 0, .int .u8 0, .int .u8 0, .int .u8 0, .int .u8 0], .slice none 0 0], []⟩).memory Tryd.f7.params.toList Rows.treeClimbsSpec.vars false #[Value.int .i64 0, Value.int .i64 0, Value.agg #[.int .u8 0, .int .u8 0, .int .u8 0, .int .u8 0, .int .u8 0, .int .u8 0, .int .u8 0, .int .u8 0, .int .u8 0, .int .u8 0, .int .u8 0, .int .u8 0, .int .u8 0, .int .u8 0, .int .u8 0, .int .u8 0, .int .u8 0, .int .u8 0, .int .u8 0, .int .u8 0, .int .u8 0, .int .u8 0, .int .u8 0, .int .u8 0, .int .u8 0, .int .u8 0, .int .u8 0, .int .u8 0, .int .u8 0, .int .u8 0, .int .u8 0, .int .u8 0], Value.agg #[.int .u8 0, .int .u8 0, .int .u8 0, .int .u8 0, .int .u8 0, .int .u8 0, .int .u8 0, .int .u8 0, .int .u8 0, .int .u8 0, .int .u8 0, .int .u8 0, .int .u8 0, .int .u8 0, .int .u8 0, .int .u8 0, .int .u8 0, .int .u8 0, .int .u8 0, .int .u8 0, .int .u8 0, .int .u8 0, .int .u8 0, .int .u8 0, .int .u8 0, .int .u8 0, .int .u8 0, .int .u8 0, .int .u8 0, .int .u8 0, .int .u8 0, .int .u8 0], Value.slice none 0 0].toList 8 = some ([.lit (.int .i64 0), .lit (.int .i64 0), .agg [.lit (.int .u8 0), .lit (.int .u8 0), .lit (.int .u8 0), .lit (.int .u8 0), .lit (.int .u8 0), .lit (.int .u8 0), .lit (.int .u8 0), .lit (.int .u8 0), .lit (.int .u8 0), .lit (.int .u8 0), .lit (.int .u8 0), .lit (.int .u8 0), .lit (.int .u8 0), .lit (.int .u8 0), .lit (.int .u8 0), .lit (.int .u8 0), .lit (.int .u8 0), .lit (.int .u8 0), .lit (.int .u8 0), .lit (.int .u8 0), .lit (.int .u8 0), .lit (.int .u8 0), .lit (.int .u8 0), .lit (.int .u8 0), .lit (.int .u8 0), .lit (.int .u8 0), .lit (.int .u8 0), .lit (.int .u8 0), .lit (.int .u8 0), .lit (.int .u8 0), .lit (.int .u8 0), .lit (.int .u8 0)], .agg [.lit (.int .u8 0), .lit (.int .u8 0), .lit (.int .u8 0), .lit (.int .u8 0), .lit (.int .u8 0), .lit (.int .u8 0), .lit (.int .u8 0), .lit (.int .u8 0), .lit (.int .u8 0), .lit (.int .u8 0), .lit (.int .u8 0), .lit (.int .u8 0), .lit (.int .u8 0), .lit (.int .u8 0), .lit (.int .u8 0), .lit (.int .u8 0), .lit (.int .u8 0), .lit (.int .u8 0), .lit (.int .u8 0), .lit (.int .u8 0), .lit (.int .u8 0), .lit (.int .u8 0), .lit (.int .u8 0), .lit (.int .u8 0), .lit (.int .u8 0), .lit (.int .u8 0), .lit (.int .u8 0), .lit (.int .u8 0), .lit (.int .u8 0), .lit (.int .u8 0), .lit (.int .u8 0), .lit (.int .u8 0)], .nil], [], places) :=
  ⟨[], by kernel_rfl⟩

set_option maxRecDepth 100000 in
theorem lifted (os : Os) (started : os.Started) (H : Type) (enc : TypeId × Value → H) (F : Stop.Interp) :
    ReturnsInHanded {} Tryd.checked os 7 .any ((OpenSpec.ofChange Rows.treeClimbsSpec).preRow enc Tryd.prog Tryd.f7 Rows.treeClimbsRow.domain false Rows.treeClimbsRow.laid) (((OpenSpec.ofChange Rows.treeClimbsSpec).at F).post enc Tryd.prog Tryd.f7 false true false false) := by
  obtain ⟨places, hx⟩ := reads os enc
  refine returnsInHanded_of_row (C := Tryd.checked) (s := OpenSpec.ofChange Rows.treeClimbsSpec) own started (by kernel_rfl) Tryd.func7
    (witness_row_at (enc := enc) (C := Tryd.checked) false (laidWorld os) #[.int .i64 0, .int .i64 0, .agg #[.int .u8 0, .int .u8 0, .int .u8 0, .int .u8 0, .int .u8 0, .int .u8 0, .int .u8 0, .int .u8 0, .int .u8 0, .int .u8 0, .int .u8 0, .int .u8 0, .int .u8 0, .int .u8 0, .int .u8 0, .int .u8 0, .int .u8 0, .int .u8 0, .int .u8 0, .int .u8 0, .int .u8 0, .int .u8 0, .int .u8 0, .int .u8 0, .int .u8 0, .int .u8 0, .int .u8 0, .int .u8 0, .int .u8 0, .int .u8 0, .int .u8 0, .int .u8 0], .agg #[.int .u8 0, .int .u8 0, .int .u8 0, .int .u8 0, .int .u8 0, .int .u8 0, .int .u8 0, .int .u8 0, .int .u8 0, .int .u8 0, .int .u8 0, .int .u8 0, .int .u8 0, .int .u8 0, .int .u8 0, .int .u8 0, .int .u8 0, .int .u8 0, .int .u8 0, .int .u8 0, .int .u8 0, .int .u8 0, .int .u8 0, .int .u8 0, .int .u8 0, .int .u8 0, .int .u8 0, .int .u8 0, .int .u8 0, .int .u8 0, .int .u8 0, .int .u8 0], .slice none 0 0] rfl (by kernel_rfl) (by kernel_rfl) (by kernel_rfl)
      (OpenSpec.preRow_of_cond 8 hx (by kernel_rfl) (fun k hk => by cases hk) (by kernel_rfl) (laid_met os))) ?_
  intro W base args ds gs before hval hW _ _ _ hL _ _
  exact contract H enc W base args ds gs before hval hW hL

theorem said : Rows.TreeClimbsSaid :=
  OpenClaim.holds_of_cond 7 Tryd.f7 rfl rfl rfl rfl rfl rfl rfl ⟨rfl, rfl, rfl, rfl, rfl⟩ rfl rfl rfl rfl rfl (by kernel_rfl) Tryd.func7 (by kernel_rfl)
    (of_decide_eq_true (by kernel_rfl)) (by unfold Func.isWrapper; first | (rw [if_pos (by decide +kernel)]; kernel_rfl) | (rw [if_neg (by decide +kernel)]; exact ⟨rfl, rfl⟩))
    (fun os started H enc _ F => by rw [OpenClaim.pre_eq_preRow]; exact lifted os started H enc F)

theorem plain (f : FuncId) (fn : Func) (hf : Tryd.pinned.checked.prog.funcNamed "aumbry/aumbrylaw07.TreeClimbs" = some f) (hfn : Tryd.pinned.checked.prog.funcs[f]? = some fn) :
    false = Tryd.pinned.checked.prog.looks [] ∧ ∀ (j : Nat) t, fn.params[j]? = some t → Tryd.pinned.checked.prog.wantsStandIn t = false := by
  obtain rfl : f = 7 := Option.some.inj ((show Tryd.prog.funcNamed "aumbry/aumbrylaw07.TreeClimbs" = some 7 by kernel_rfl).symm.trans hf) |>.symm
  obtain rfl : fn = Tryd.f7 := (Option.some.inj (Tryd.func7.symm.trans hfn)).symm
  refine ⟨by kernel_rfl, fun j t ht => ?_⟩
  exact wants_none (by kernel_rfl) (Array.mem_of_getElem? ht)

/-- The card: the statement holds, its listed tables tied to the program's text. -/
theorem card : Rows.TreeClimbsCardSaid :=
  Claim7.holds_tied_plain_at .later [] _ _ _ _ said (fun _ h => by cases h) (by kernel_rfl) (fun _ h => by cases h) treeClimbs_row_tie rfl ⟨rfl, rfl⟩ (by kernel_rfl) rfl plain (by kernel_rfl)
end Go.Proofs.YtpfhhbfjemmkaaaDoor.treeClimbs
