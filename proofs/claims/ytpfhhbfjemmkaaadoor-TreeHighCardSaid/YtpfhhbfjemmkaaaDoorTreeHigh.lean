/- TreeHigh: a proof is as long as the tree is high; the last leaf's way leads to the root, too. For all numbers. -/
import Derived.Test.YtpfhhbfjemmkaaaDoorLaw7
import Derived.Test.YtpfhhbfjemmkaaaDoorPTAll
import Derived.Test.YtpfhhbfjemmkaaaDoorTree7
import Derived.Test.YtpfhhbfjemmkaaaDoorRTMay
namespace Go.Proofs.YtpfhhbfjemmkaaaDoor.treeHigh
open Go.ChangeShapes Go.WideShapes Go.ChangeAt Go.RowKit

def leaves (k : Nat) : List (List UInt8) := (List.range k).map fun j => leafH [UInt8.ofNat j]
theorem leaves_len (k : Nat) : (leaves k).length = k := by simp [leaves]
theorem leaves_snoc (k : Nat) : leaves (k + 1) = leaves k ++ [leafH [UInt8.ofNat k]] := by simp [leaves, List.range_succ]
theorem leaves_hash (k : Nat) : ∀ r ∈ leaves k, r.length = 32 := fun r hr => by
  obtain ⟨j, _, rfl⟩ := List.mem_map.1 hr
  exact leafH_len _
set_option maxRecDepth 100000 in
set_option maxHeartbeats 16000000 in
theorem walk (n0 i0 : Int) (w : World) (hn0 : -9223372036854775808 ≤ n0) (hn1 : n0 ≤ 9223372036854775807) (hi0 : -9223372036854775808 ≤ i0) (hi1 : i0 ≤ 9223372036854775807) (htab : Pow10 w.heap.size w) :
    Calls Tryd.prog 3 #[.int .i64 n0, .int .i64 i0] w fun e w' => e = .returned (.bool true) ∧ Below w.heap.size w w' := by
  have HWN := Lib.hid (fun W => within_any n0 40 W hn0 hn1 (by omega))
  obtain ⟨q1, q2⟩ := withinI_range n0 40 (by omega)
  obtain ⟨M, hM⟩ : ∃ M : Nat, withinI n0 40 = (M : Int) := ⟨(withinI n0 40).toNat, by omega⟩
  rw [hM] at HWN
  obtain ⟨N, hN⟩ : ∃ N : Nat, 1 + M = N := ⟨_, rfl⟩
  have hNi : (1 : Int) + (M : Int) = (N : Int) := by omega
  have hN40 : N ≤ 40 := by omega
  have HWI := Lib.hid (fun W => within_any i0 (N : Int) W hi0 hi1 (by omega))
  obtain ⟨q3, q4⟩ := withinI_range i0 (N : Int) (by omega)
  obtain ⟨I, hI⟩ : ∃ I : Nat, withinI i0 (N : Int) = (I : Int) := ⟨(withinI i0 (N : Int)).toNat, by omega⟩
  rw [hI] at HWI
  have hIN : I < N := by omega
  have hIi : (I : Int) < (N : Int) := by omega
  have hI0 : (0 : Int) ≤ (I : Int) := by omega
  obtain ⟨J, hJ⟩ : ∃ J : Nat, J + 1 = N := ⟨N - 1, by omega⟩
  have hJi : (N : Int) - 1 = (J : Int) := by omega
  have hJN : J < N := by omega
  have hJj : (J : Int) < (N : Int) := by omega
  have hJ0 : (0 : Int) ≤ (J : Int) := by omega
  have hwJ : IntKind.i64.wrap (J : Int) = (J : Int) := IntWalk.i64_in _ (by omega)
  have hN0 : 0 < N := by omega
  clear q1 q2 q3 q4 hI hM hN hn0 hn1 hi0 hi1 hJ
  have HT := Lib.hid htab
  obtain ⟨K, hK⟩ : ∃ K, tree.high N = K := ⟨_, rfl⟩
  have HKH := Lib.hid hK
  have hK6 : K ≤ 6 := by rw [← hK]; exact tree.high_least 6 N (by omega)
  have HLT := Lib.hid (fun h => (show 2 ^ h < N ↔ h < K from by
    rw [← hK]
    constructor
    · intro h2
      exact tree.high_more h2
    · intro h2
      by_cases h3 : 2 ^ h < N
      · exact h3
      · exact absurd (tree.high_least h N (by omega)) (by omega)))
  clear htab hK
  go_enter Tryd.func3, Tryd.ntmps3
  go_wp2_with fail
  with_reducible refine (HWN.out _).mono ?_
  rintro e wx ⟨rfl, rfl⟩
  go_wp2_with fail
  with_reducible refine (HWI.out _).mono ?_
  rintro e wx ⟨rfl, rfl⟩
  clear HWN HWI
  go_wp2_with fail
  go_loopw [5, 6] (fun lv t wq => ∃ k : Nat, k ≤ N ∧ t = .int .i64 (k : Int) ∧ Hid (OwnH wq w.heap.size lv (leaves k)) ∧ Hid (Below w.heap.size w wq)) (fun _ t _ => N - (intOf t).toNat)
  case atStart => exact ⟨0, Nat.zero_le _, rfl, Lib.hid (OwnH.nil _ _), Lib.hid (Below.refl _ _)⟩
  case round =>
    obtain ⟨k, hk, rfl, HO, HBL⟩ := hrel
    obtain ⟨A, c, rfl, hNc, _⟩ := HO.out.form (leaves_len k)
    by_cases hlt : k < N
    · have hki : (k : Int) < (N : Int) := by omega
      have hw8 : IntKind.u8.wrap (k : Int) = (k : Int) := by rw [IntKind.wrap_u8]; omega
      obtain ⟨x, hx⟩ : ∃ x, leafH [UInt8.ofNat k] = x := ⟨_, rfl⟩
      have HSN := Lib.hid (show leaves (k + 1) = leaves k ++ [x] by rw [leaves_snoc, hx])
      have HXL := Lib.hid (show x.length = 32 by rw [← hx]; exact leafH_len _)
      obtain ⟨X, hX⟩ : ∃ X, u8A x = X := ⟨_, rfl⟩
      have HXE := Lib.hid hX
      have HXZ := Lib.hid (show X.size = 32 by rw [← hX, u8A_size]; exact HXL.out)
      have HLIM := Lib.hid (show (leaves k).length ≤ 1000000 by rw [leaves_len]; omega)
      obtain ⟨wo, rfl⟩ : ∃ y : World, y = wr := ⟨_, rfl⟩
      have hal : Below wo.heap.size wo (wo.alloc (.cells #[.int .u8 (k : Int)] 5)) := (Below.refl _ _).alloc (Nat.le_refl _) _
      have HLF := Lib.hid (show Calls Tryd.prog 13 #[.slice (some ⟨wo.heap.size, 0, none⟩) 1 1] (wo.alloc (.cells #[.int .u8 (k : Int)] 5)) fun e w' => e = .returned (.agg X) ∧ Below (wo.alloc (.cells #[.int .u8 (k : Int)] 5)).heap.size (wo.alloc (.cells #[.int .u8 (k : Int)] 5)) w' by
        rw [← hX, ← hx]
        refine pleaf_any _ 1 1 [UInt8.ofNat k] _ rfl (by omega) (Nat.le_refl _) (by unfold maxLen; omega) ?_ (tab_in HT.out (HBL.out.trans (hal.mono HBL.out.size)))
        exact .inr ⟨wo.heap.size, 0, rfl, by simp, fun i hi => by
          have hk2 := cell_of_row (wo.alloc (.cells #[.int .u8 (k : Int)] 5)) wo.heap.size i #[.int .u8 (k : Int)] 5 (0, 0) (heap_alloc_new wo _)
          rw [Nat.zero_add, hk2]
          match i, hi with
          | 0, _ =>
            show some (Value.int .u8 (k : Int)) = some (.int .u8 (((UInt8.ofNat k).toNat : Nat) : Int))
            rw [UInt8.toNat_ofNat_of_lt' (by show k < 256; omega)]⟩)
      have HAL := Lib.hid hal
      clear hX hx hal
      go_wp2_with fail
      with_reducible refine (HLF.out).mono ?_
      rintro e w4 ⟨rfl, hb4⟩
      have hb := HAL.out.trans (hb4.mono HAL.out.size)
      have hal5 : Below w4.heap.size w4 (w4.alloc (.cells X 25)) := (Below.refl _ _).alloc (Nat.le_refl _) _
      have hb5 := hb.trans (hal5.mono hb.size)
      have HOW := Lib.hid (HO.out.on hb5)
      have HBZ := Lib.hid (show Blk (w4.alloc (.cells X 25)) w4.heap.size (u8A x) 25 by
        rw [HXE.out]
        exact Blk.new _ _ _)
      have HBAL := Lib.hid (HBL.out.trans (hb5.mono HBL.out.size))
      have hle2 : w.heap.size ≤ (w4.alloc (.cells X 25)).heap.size := HBAL.out.size
      clear hb hb4 hal5 hb5 HLF HAL HO HBL
      go_wp2_with (first
        | (with_reducible refine wpList_build_hash rfl (.tmp 30) rfl X rfl HXZ.out ?_)
        | (at_builtin; refine wpList_append_hashG rfl _ _ rfl w.heap.size _ (leaves k) rfl HOW.out w4.heap.size x HXL.out HBZ.out rfl HLIM.out hle2 ?_))
      intro v7 w7 hown7 hg7
      rw [← HSN.out] at hown7
      have HB7 := Lib.hid (HBAL.out.grown hg7 hle2 (fun k hk => HOW.out.lt k hk))
      have HO7 := Lib.hid hown7
      clear hown7 hg7 HOW HBZ HBAL hle2
      go_wp2_with fail
      go_roundw
      case rel => exact ⟨k + 1, hlt, by go_num, HO7, HB7⟩
      case measure => simp [intOf]; omega
    · obtain rfl : N = k := by omega
      have hki : ¬ (N : Int) < (N : Int) := by omega
      obtain ⟨ls, hls⟩ : ∃ l, leaves N = l := ⟨_, rfl⟩
      have HLN := Lib.hid (show ls.length = N by rw [← hls]; exact leaves_len N)
      have HLH := Lib.hid (show ∀ r ∈ ls, r.length = 32 by rw [← hls]; exact leaves_hash N)
      rw [hls] at HO
      obtain ⟨w5, rfl⟩ : ∃ y : World, y = wr := ⟨_, rfl⟩
      have hv := HO.out.hv
      obtain ⟨gb, off, hA, hgb, hxr, hxl⟩ := hv.at_ (i := I) hIN
      obtain ⟨_, _, e1, _, hyr, hyl⟩ := hv.at_ (i := J) hJN
      subst hA
      injection e1 with e1
      injection e1 with e1 e2
      subst e1 e2
      have HRD := Lib.hid hv.rd
      have HBW := HBL
      clear hls HO HBL hv
      go_wp2_with fail
      go_loop [7] (fun t => ∃ h : Nat, h ≤ K ∧ t = .int .i64 (h : Int)) (fun t => K - (intOf t).toNat)
      case atStart => exact ⟨0, Nat.zero_le _, rfl⟩
      case round =>
        obtain ⟨h, hh, rfl⟩ := hrel
        obtain ⟨pd, hpd⟩ : ∃ q : Nat, 2 ^ h = q := ⟨_, rfl⟩
        have hqi : (2 : Int) ^ h = (pd : Int) := by rw [← hpd]; simp
        have hq64 : pd ≤ 64 := by rw [← hpd]; exact show 2 ^ h ≤ 2 ^ 6 from Nat.pow_le_pow_right (by omega) (by omega)
        have h63 : h < 64 := by omega
        have hq256 : (pd : Int) ≤ 256 := by omega
        have HPD := Lib.hid hpd
        have hwh : IntKind.u64.wrap (h : Int) = (h : Int) := by rw [IntKind.wrap_u64]; omega
        have hwp : IntKind.i64.wrap (pd : Int) = (pd : Int) := IntWalk.i64_in _ (by omega)
        have hlq := HLT.out h
        rw [hpd] at hlq
        clear hpd
        by_cases hlt : h < K
        · have hli : (pd : Int) < (N : Int) := by have := hlq.2 hlt; omega
          clear hlq
          go_wp2_with fail
          go_round
          case rel => exact ⟨h + 1, hlt, by go_num⟩
          case measure => simp [intOf]; omega
        · obtain rfl : K = h := by omega
          have hli : ¬ (pd : Int) < (N : Int) := by
            intro h2
            have := hlq.1 (by omega)
            omega
          clear hlq
          obtain ⟨V, hV⟩ : ∃ X, u8A (rootV ls) = X := ⟨_, rfl⟩
          have HEV := Lib.hid hV
          have hvl : (rootV ls).length = 32 := rootV_len HLH.out
          have HLV := Lib.hid hvl
          have HZV := Lib.hid (show V.size = 32 by rw [← hV, u8A_size]; exact hvl)
          have HIV := Lib.hid (show (Tryd.prog.info? 25).map (·.size) = some V.size by rw [HZV.out]; kernel_rfl)
          have HOV := Lib.hid (show V.all (·.oneCell') = true by rw [← hV]; exact u8A_one _)
          obtain ⟨ps1, hps1⟩ : ∃ p, proofV ls I = p := ⟨_, rfl⟩
          obtain ⟨ps2, hps2⟩ : ∃ p, proofV ls J = p := ⟨_, rfl⟩
          have HQ1 := Lib.hid (show ps1.length = K by rw [← hps1, proofV_len, HLN.out, HKH.out])
          have HQ2 := Lib.hid (show ps2.length = K by rw [← hps2, proofV_len, HLN.out, HKH.out])
          have HBO := HBW
          replace HT := Lib.hid (tab_in HT.out HBW.out)
          replace HBW := Lib.hid (Below.refl w5.heap.size w5)
          have HRT := Lib.hid (show Calls Tryd.prog 14 #[.slice (some ⟨gb, off, none⟩) N c] w5 fun e w' => e = .returned (.agg V) ∧ Below w5.heap.size w5 w' by
            rw [← hV]
            exact proot_any _ N c ls w5 HLN.out (by omega) HLH.out HRD.out HT.out)
          have HP1 := Lib.hid (fun W (h : Below w5.heap.size w5 W) => (show Calls Tryd.prog 15 #[.int .i64 (I : Int), .slice (some ⟨gb, off, none⟩) N c] W fun e w' => ∃ v, e = .returned (.tuple #[v, .int .i64 0]) ∧ OwnH w' W.heap.size v ps1 ∧ Below W.heap.size W w' from by
            rw [← hps1]
            exact pproof_yes _ N c I ls W HLN.out (by omega) hIN HLH.out (HRD.out.on h) (tab_in HT.out h)))
          have HP2 := Lib.hid (fun W (h : Below w5.heap.size w5 W) => (show Calls Tryd.prog 15 #[.int .i64 (J : Int), .slice (some ⟨gb, off, none⟩) N c] W fun e w' => ∃ v, e = .returned (.tuple #[v, .int .i64 0]) ∧ OwnH w' W.heap.size v ps2 ∧ Below W.heap.size W w' from by
            rw [← hps2]
            exact pproof_yes _ N c J ls W HLN.out (by omega) hJN HLH.out (HRD.out.on h) (tab_in HT.out h)))
          obtain ⟨x, hx⟩ : ∃ x, ls.getD I [] = x := ⟨_, rfl⟩
          obtain ⟨y, hy⟩ : ∃ x, ls.getD J [] = x := ⟨_, rfl⟩
          have HO1 := Lib.hid (show climbV (N : Int) (I : Int) x ps1 = rootV ls ∧ climbOK (N : Int) (I : Int) ps1.length by
            have h1 := own_climb (l := ls) (i := I) (by rw [HLN.out]; exact hIN) (by rw [HLN.out]; omega)
            have h2 := own_ok (l := ls) (i := I) (by rw [HLN.out]; exact hIN) (by rw [HLN.out]; omega)
            rw [hps1, HLN.out, hx] at h1
            rw [hps1, HLN.out] at h2
            exact ⟨h1, h2⟩)
          have HO2 := Lib.hid (show climbV (N : Int) (J : Int) y ps2 = rootV ls ∧ climbOK (N : Int) (J : Int) ps2.length by
            have h1 := own_climb (l := ls) (i := J) (by rw [HLN.out]; exact hJN) (by rw [HLN.out]; omega)
            have h2 := own_ok (l := ls) (i := J) (by rw [HLN.out]; exact hJN) (by rw [HLN.out]; omega)
            rw [hps2, HLN.out, hy] at h1
            rw [hps2, HLN.out] at h2
            exact ⟨h1, h2⟩)
          rw [hx] at hxr hxl
          rw [hy] at hyr hyl
          have HRG0 := Lib.hid (fun W (h : Below w5.heap.size w5 W) => (⟨rangeAt_keep hxr fun j => h.cell (p := ⟨gb, _, none⟩) hgb, rangeAt_keep hyr fun j => h.cell (p := ⟨gb, _, none⟩) hgb⟩ : W.rangeAt gb (off + I * 32) (Lib.byteCells x) ∧ W.rangeAt gb (off + J * 32) (Lib.byteCells y)))
          have HLX := Lib.hid hxl
          have HLY := Lib.hid hyl
          obtain ⟨X, hX⟩ : ∃ X, u8A x = X := ⟨_, rfl⟩
          have HEX := Lib.hid hX
          obtain ⟨Y, hY⟩ : ∃ X, u8A y = X := ⟨_, rfl⟩
          have HEY := Lib.hid hY
          have HCL0 := Lib.hid (fun W A1 c1 (h : Below w5.heap.size w5 W) (hv : HV W (.slice A1 K c1) ps1) => (show Calls Tryd.prog 16 #[.int .i64 (N : Int), .int .i64 (I : Int), .agg X, .slice A1 K c1] W fun e w' => e = .returned (.tuple #[.agg V, .bool true]) ∧ Below W.heap.size W w' from by
            have h2 := pclimb_any (N : Int) (I : Int) x A1 K c1 ps1 W HQ1.out (by omega) HLX.out hv.1 hv.rd (tab_in HT.out h)
            unfold ClimbEnd at h2
            rw [HO1.out.1, decide_eq_true HO1.out.2] at h2
            rw [← hV, ← hX]
            exact h2))
          have HCK0 := Lib.hid (fun W A2 c2 (h : Below w5.heap.size w5 W) (hv : HV W (.slice A2 K c2) ps2) => (show Calls Tryd.prog 17 #[.agg V, .int .i64 (N : Int), .int .i64 (J : Int), .agg Y, .slice A2 K c2] W fun e w' => e = .returned (.bool true) ∧ Below W.heap.size W w' from by
            have h2 := pcheck_any (rootV ls) (N : Int) (J : Int) y A2 K c2 ps2 W hvl HQ2.out (by omega) HLY.out hv.1 hv.rd (tab_in HT.out h)
            rw [decide_eq_true ⟨HO2.out.2, HO2.out.1⟩] at h2
            rw [← hV, ← hY]
            exact h2))
          have HPAD := Lib.hid (fun W => (show Calls Tryd.prog 18 #[.int .i64 (N : Int)] W fun e W' => e = .returned (.int .i64 (pd : Int)) ∧ W = W' from by
            have h2 := ppad_any (N : Int) W (by omega) (by omega)
            rw [Int.toNat_natCast, show tree.pad N = pd by unfold tree.pad; rw [HKH.out]; exact HPD.out] at h2
            exact h2))
          have HVV := Lib.hid (fun W => (show (Op.equalIn 10000 25 (.agg V) (.agg V)).run Tryd.prog W = .ok true W by rw [← hV, run_hash_eq W _ _ hvl hvl, decide_eq_true rfl]))
          clear hX hY hV hps1 hps2 hx hy hxr hyr hxl hyl hgb hvl
          go_wp2_with fail
          with_reducible refine (HRT.out).mono ?_
          rintro e w6 ⟨rfl, hb⟩
          replace HBW := Lib.hid hb
          clear hb HRT
          go_upto_region 12 with (with_reducible refine wpList_store_blk rfl 25 (.tmp 8) (.tmp 41) rfl w6.heap.size V rfl rfl 25 _ (Blk.new _ _ _) (by rw [HZV.out]; kernel_rfl) (by rw [HZV.out]; kernel_rfl) HOV.out ?_)
          generalize hww7 : World.setRow _ _ _ = w7
          have hal : Below w6.heap.size w6 w7 := by
            rw [← hww7]
            exact below_row ((Below.refl _ _).alloc (Nat.le_refl _) _) (by simp) (Nat.le_refl _) _
          have HB8 := Lib.hid (show Blk w7 w6.heap.size V 25 by
            rw [← hww7]
            exact (Blk.new _ _ _).row _)
          replace HBW := Lib.hid (HBW.out.trans (hal.mono HBW.out.size))
          clear hal hww7
          go_wp2_with fail
          with_reducible refine (HP1.out w7 HBW.out).mono ?_
          rintro e w8 ⟨v1, rfl, hown, hb⟩
          obtain ⟨A1, c1, rfl, _, _⟩ := hown.form HQ1.out
          have HV1 := Lib.hid hown.hv
          replace HB8 := Lib.hid (HB8.out.below hb HB8.out.lt)
          replace HBW := Lib.hid (HBW.out.trans (hb.mono HBW.out.size))
          clear hb hown HP1
          go_wp2_with fail
          with_reducible refine (HP2.out w8 HBW.out).mono ?_
          rintro e w9 ⟨v2, rfl, hown, hb⟩
          obtain ⟨A2, c2, rfl, _, _⟩ := hown.form HQ2.out
          have HV2 := Lib.hid hown.hv
          replace HV1 := Lib.hid (HV1.out.on hb)
          replace HB8 := Lib.hid (HB8.out.below hb HB8.out.lt)
          replace HBW := Lib.hid (HBW.out.trans (hb.mono HBW.out.size))
          clear hb hown HP2
          have HXR := Lib.hid (HRG0.out w9 HBW.out).1
          have HCL := Lib.hid (HCL0.out w9 A1 c1 HBW.out HV1.out)
          clear HCL0
          go_wp2_with (with_reducible refine wpList_load_hash rfl (.tmp 60) rfl gb (off + I * 32) rfl x HLX.out HXR.out X HEX.out ?_)
          with_reducible refine (HCL.out).mono ?_
          rintro e wb ⟨rfl, hb⟩
          replace HV1 := Lib.hid (HV1.out.on hb)
          replace HV2 := Lib.hid (HV2.out.on hb)
          replace HB8 := Lib.hid (HB8.out.below hb HB8.out.lt)
          replace HBW := Lib.hid (HBW.out.trans (hb.mono HBW.out.size))
          clear hb HCL HXR
          go_upto_region 15 with (with_reducible refine wpList_store_blk rfl 25 (.tmp 13) (.tmp 64) rfl wb.heap.size V rfl rfl 25 _ (Blk.new _ _ _) (by rw [HZV.out]; kernel_rfl) (by rw [HZV.out]; kernel_rfl) HOV.out ?_)
          generalize hwwc : World.setRow _ _ _ = wc
          have hal : Below wb.heap.size wb wc := by
            rw [← hwwc]
            exact below_row ((Below.refl _ _).alloc (Nat.le_refl _) _) (by simp) (Nat.le_refl _) _
          have HB13 := Lib.hid (show Blk wc wb.heap.size V 25 by
            rw [← hwwc]
            exact (Blk.new _ _ _).row _)
          replace HB8 := Lib.hid (HB8.out.below hal HB8.out.lt)
          replace HBW := Lib.hid (HBW.out.trans (hal.mono HBW.out.size))
          replace HV2 := Lib.hid (HV2.out.on hal)
          clear hal hwwc
          have HB8L := Lib.hid (show Blk wc w6.heap.size (u8A (rootV ls)) 25 by rw [HEV.out]; exact HB8.out)
          have HB13L := Lib.hid (show Blk wc wb.heap.size (u8A (rootV ls)) 25 by rw [HEV.out]; exact HB13.out)
          have HR8 := Lib.hid (fun W (h : Below wc.heap.size wc W) => range_of_blk (HB8L.out.below h HB8L.out.lt))
          have HR13 := Lib.hid (fun W (h : Below wc.heap.size wc W) => range_of_blk (HB13L.out.below h HB13L.out.lt))
          have HRG := Lib.hid (fun W (h : Below wc.heap.size wc W) => (HRG0.out W (HBW.out.trans (h.mono HBW.out.size))).2)
          have HCK := Lib.hid (fun W (h : Below wc.heap.size wc W) => HCK0.out W A2 c2 (HBW.out.trans (h.mono HBW.out.size)) (HV2.out.on h))
          have HWK := Lib.hid (fun W (h : Below wc.heap.size wc W) => wakes7_any W (tab_in HT.out (HBW.out.trans (h.mono HBW.out.size))))
          clear HRG0 HCK0 HB8L HB13L
          replace HPD := HPAD
          go_wp2_with fail
          refine wp_region_loose 51 0 (fun i => false) (promises [.is (.int .i64 0), .is (.bool true), .is (.bool true), .is (.int .i64 0), .is (.bool true), .is (.bool true), .is (.bool true), .is (.slice A1 K c1), .is (.int .i64 (K : Int)), .is (.int .i64 (K : Int)), .is (.bool true), .is (.bool true), .is (.bool true), .is (.slice A2 K c2), .is (.int .i64 (K : Int)), .is (.int .i64 (K : Int)), .is (.bool true), .is (.bool true), .is (.bool true), .is (.bool true), .is (.bool true), .is (.bool true), .is (.agg V), .is (.agg V), .is (.bool true), .is (.bool true), .is (.bool true), .is (.agg V), .is (.int .i64 (N : Int)), .is (.int .i64 (N : Int)), .is (.int .i64 (J : Int)), .is (.slice (some ⟨gb, off, none⟩) N c), .is (.int .i64 (N : Int)), .is (.int .i64 (J : Int)), .is (.pointer (some ⟨gb, off + J * 32, none⟩)), .is (.agg Y), .is (.slice A2 K c2), .is (.bool true), .is (.bool true), .is (.bool true), .is (.int .i64 (N : Int)), .is (.int .i64 (pd : Int)), .is (.int .i64 (K : Int)), .is (.int .u64 (K : Int)), .is (.int .i64 (pd : Int)), .is (.bool true), .is (.bool true), .is (.bool true), .is (.bool true), .is (.bool true), .is (.bool true)]) (by kernel_rfl) rfl (by kernel_rfl) (fun i v w w' h hb => Spec.keep h hb) ⟨?_, ?_, ?_, ?_, ?_, ?_, ?_, ?_, ?_, ?_, ?_, ?_, ?_, ?_, ?_, ?_, ?_, ?_, ?_, ?_, ?_, ?_, ?_, ?_, ?_, ?_, ?_, ?_, ?_, ?_, ?_, ?_, ?_, ?_, ?_, ?_, ?_, ?_, ?_, ?_, ?_, ?_, ?_, ?_, ?_, ?_, ?_, ?_, ?_, ?_, ?_, trivial⟩ ?_
          · refine StepOKl.of ?_
            intro ac w hb hu hk
            refine ⟨wanted_none rfl, ?_⟩
            have e10 : ac.eval (.tmp 10) = .int .i64 0 := hu.is (t := 10) (by kernel_rfl)
            exact step_value (BigFrame.run_move (.tmp 10) rfl w) (Below.refl _ _) e10
          · refine StepOKl.of ?_
            intro ac w hb hu hk
            refine ⟨wanted_none rfl, ?_⟩
            have e66 : ac.eval (.tmp 66) = (.int .i64 0) := (hk ⟨0, .data⟩ (by simp) rfl).is rfl rfl
            refine step_value (w' := w) (v := (.bool true)) ?_ (Below.refl _ _) rfl
            have ec0 : ac.eval (.const (Value.int IntKind.i64 0)) = Value.int IntKind.i64 0 := rfl
            generalize ac.eval = ρ at e66 ec0 ⊢
            go_simp
          · refine StepOKl.of ?_
            intro ac w hb hu hk
            refine ⟨wanted_none rfl, ?_⟩
            have e67 : ac.eval (.tmp 67) = (.bool true) := (hk ⟨1, .data⟩ (by simp) rfl).is rfl rfl
            exact step_value (BigFrame.run_move (.tmp 67) rfl w) (Below.refl _ _) e67
          · refine StepOKl.of ?_
            intro ac w hb hu hk
            refine ⟨wanted_some rfl (hk ⟨2, .guard⟩ (by simp) rfl) rfl rfl (fun _ h => h), ?_⟩
            have e12 : ac.eval (.tmp 12) = .int .i64 0 := hu.is (t := 12) (by kernel_rfl)
            exact step_value (BigFrame.run_move (.tmp 12) rfl w) (Below.refl _ _) e12
          · refine StepOKl.of ?_
            intro ac w hb hu hk
            refine ⟨wanted_some rfl (hk ⟨2, .guard⟩ (by simp) rfl) rfl rfl (fun _ h => h), ?_⟩
            have e69 : ac.eval (.tmp 69) = (.int .i64 0) := (hk ⟨3, .data⟩ (by simp) rfl).is rfl rfl
            refine step_value (w' := w) (v := (.bool true)) ?_ (Below.refl _ _) rfl
            have ec0 : ac.eval (.const (Value.int IntKind.i64 0)) = Value.int IntKind.i64 0 := rfl
            generalize ac.eval = ρ at e69 ec0 ⊢
            go_simp
          · refine StepOKl.of ?_
            intro ac w hb hu hk
            refine ⟨wanted_none rfl, ?_⟩
            have e68 : ac.eval (.tmp 68) = (.bool true) := (hk ⟨2, .data⟩ (by simp) rfl).is rfl rfl
            have e70 : ac.eval (.tmp 70) = (.bool true) := (hk ⟨4, .data⟩ (by simp) rfl).is rfl rfl
            exact step_value (run_pick_true e68 rfl w) (Below.refl _ _) e70
          · refine StepOKl.of ?_
            intro ac w hb hu hk
            refine ⟨wanted_none rfl, ?_⟩
            have e71 : ac.eval (.tmp 71) = (.bool true) := (hk ⟨5, .data⟩ (by simp) rfl).is rfl rfl
            exact step_value (BigFrame.run_move (.tmp 71) rfl w) (Below.refl _ _) e71
          · refine StepOKl.of ?_
            intro ac w hb hu hk
            refine ⟨wanted_some rfl (hk ⟨6, .guard⟩ (by simp) rfl) rfl rfl (fun _ h => h), ?_⟩
            have e9 : ac.eval (.tmp 9) = .slice A1 K c1 := hu.is (t := 9) (by kernel_rfl)
            exact step_value (BigFrame.run_move (.tmp 9) rfl w) (Below.refl _ _) e9
          · refine StepOKl.of ?_
            intro ac w hb hu hk
            refine ⟨wanted_some rfl (hk ⟨6, .guard⟩ (by simp) rfl) rfl rfl (fun _ h => h), ?_⟩
            have e73 : ac.eval (.tmp 73) = (.slice A1 K c1) := (hk ⟨7, .data⟩ (by simp) rfl).is rfl rfl
            refine step_value (w' := w) (v := (.int .i64 (K : Int))) ?_ (Below.refl _ _) rfl
            generalize ac.eval = ρ at e73 ⊢
            go_simp
          · refine StepOKl.of ?_
            intro ac w hb hu hk
            refine ⟨wanted_some rfl (hk ⟨6, .guard⟩ (by simp) rfl) rfl rfl (fun _ h => h), ?_⟩
            have e7 : ac.eval (.tmp 7) = .int .i64 (K : Int) := hu.is (t := 7) (by kernel_rfl)
            exact step_value (BigFrame.run_move (.tmp 7) rfl w) (Below.refl _ _) e7
          · refine StepOKl.of ?_
            intro ac w hb hu hk
            refine ⟨wanted_some rfl (hk ⟨6, .guard⟩ (by simp) rfl) rfl rfl (fun _ h => h), ?_⟩
            have e74 : ac.eval (.tmp 74) = (.int .i64 (K : Int)) := (hk ⟨8, .data⟩ (by simp) rfl).is rfl rfl
            have e75 : ac.eval (.tmp 75) = (.int .i64 (K : Int)) := (hk ⟨9, .data⟩ (by simp) rfl).is rfl rfl
            refine step_value (w' := w) (v := (.bool true)) ?_ (Below.refl _ _) rfl
            generalize ac.eval = ρ at e74 e75 ⊢
            go_simp
          · refine StepOKl.of ?_
            intro ac w hb hu hk
            refine ⟨wanted_none rfl, ?_⟩
            have e72 : ac.eval (.tmp 72) = (.bool true) := (hk ⟨6, .data⟩ (by simp) rfl).is rfl rfl
            have e76 : ac.eval (.tmp 76) = (.bool true) := (hk ⟨10, .data⟩ (by simp) rfl).is rfl rfl
            exact step_value (run_pick_true e72 rfl w) (Below.refl _ _) e76
          · refine StepOKl.of ?_
            intro ac w hb hu hk
            refine ⟨wanted_none rfl, ?_⟩
            have e77 : ac.eval (.tmp 77) = (.bool true) := (hk ⟨11, .data⟩ (by simp) rfl).is rfl rfl
            exact step_value (BigFrame.run_move (.tmp 77) rfl w) (Below.refl _ _) e77
          · refine StepOKl.of ?_
            intro ac w hb hu hk
            refine ⟨wanted_some rfl (hk ⟨12, .guard⟩ (by simp) rfl) rfl rfl (fun _ h => h), ?_⟩
            have e11 : ac.eval (.tmp 11) = .slice A2 K c2 := hu.is (t := 11) (by kernel_rfl)
            exact step_value (BigFrame.run_move (.tmp 11) rfl w) (Below.refl _ _) e11
          · refine StepOKl.of ?_
            intro ac w hb hu hk
            refine ⟨wanted_some rfl (hk ⟨12, .guard⟩ (by simp) rfl) rfl rfl (fun _ h => h), ?_⟩
            have e79 : ac.eval (.tmp 79) = (.slice A2 K c2) := (hk ⟨13, .data⟩ (by simp) rfl).is rfl rfl
            refine step_value (w' := w) (v := (.int .i64 (K : Int))) ?_ (Below.refl _ _) rfl
            generalize ac.eval = ρ at e79 ⊢
            go_simp
          · refine StepOKl.of ?_
            intro ac w hb hu hk
            refine ⟨wanted_some rfl (hk ⟨12, .guard⟩ (by simp) rfl) rfl rfl (fun _ h => h), ?_⟩
            have e7 : ac.eval (.tmp 7) = .int .i64 (K : Int) := hu.is (t := 7) (by kernel_rfl)
            exact step_value (BigFrame.run_move (.tmp 7) rfl w) (Below.refl _ _) e7
          · refine StepOKl.of ?_
            intro ac w hb hu hk
            refine ⟨wanted_some rfl (hk ⟨12, .guard⟩ (by simp) rfl) rfl rfl (fun _ h => h), ?_⟩
            have e80 : ac.eval (.tmp 80) = (.int .i64 (K : Int)) := (hk ⟨14, .data⟩ (by simp) rfl).is rfl rfl
            have e81 : ac.eval (.tmp 81) = (.int .i64 (K : Int)) := (hk ⟨15, .data⟩ (by simp) rfl).is rfl rfl
            refine step_value (w' := w) (v := (.bool true)) ?_ (Below.refl _ _) rfl
            generalize ac.eval = ρ at e80 e81 ⊢
            go_simp
          · refine StepOKl.of ?_
            intro ac w hb hu hk
            refine ⟨wanted_none rfl, ?_⟩
            have e78 : ac.eval (.tmp 78) = (.bool true) := (hk ⟨12, .data⟩ (by simp) rfl).is rfl rfl
            have e82 : ac.eval (.tmp 82) = (.bool true) := (hk ⟨16, .data⟩ (by simp) rfl).is rfl rfl
            exact step_value (run_pick_true e78 rfl w) (Below.refl _ _) e82
          · refine StepOKl.of ?_
            intro ac w hb hu hk
            refine ⟨wanted_none rfl, ?_⟩
            have e83 : ac.eval (.tmp 83) = (.bool true) := (hk ⟨17, .data⟩ (by simp) rfl).is rfl rfl
            exact step_value (BigFrame.run_move (.tmp 83) rfl w) (Below.refl _ _) e83
          · refine StepOKl.of ?_
            intro ac w hb hu hk
            refine ⟨wanted_some rfl (hk ⟨18, .guard⟩ (by simp) rfl) rfl rfl (fun _ h => h), ?_⟩
            have e14 : ac.eval (.tmp 14) = .bool true := hu.is (t := 14) (by kernel_rfl)
            exact step_value (BigFrame.run_move (.tmp 14) rfl w) (Below.refl _ _) e14
          · refine StepOKl.of ?_
            intro ac w hb hu hk
            refine ⟨wanted_none rfl, ?_⟩
            have e84 : ac.eval (.tmp 84) = (.bool true) := (hk ⟨18, .data⟩ (by simp) rfl).is rfl rfl
            have e85 : ac.eval (.tmp 85) = (.bool true) := (hk ⟨19, .data⟩ (by simp) rfl).is rfl rfl
            exact step_value (run_pick_true e84 rfl w) (Below.refl _ _) e85
          · refine StepOKl.of ?_
            intro ac w hb hu hk
            refine ⟨wanted_none rfl, ?_⟩
            have e86 : ac.eval (.tmp 86) = (.bool true) := (hk ⟨20, .data⟩ (by simp) rfl).is rfl rfl
            exact step_value (BigFrame.run_move (.tmp 86) rfl w) (Below.refl _ _) e86
          · refine StepOKl.of ?_
            intro ac w hb hu hk
            refine ⟨wanted_some rfl (hk ⟨21, .guard⟩ (by simp) rfl) rfl rfl (fun _ h => h), ?_⟩
            have e13 : ac.eval (.tmp 13) = .pointer (some ⟨wb.heap.size, 0, none⟩) := hu.is (t := 13) (by kernel_rfl)
            refine step_value (w' := w) (v := .agg V) (run_load_hash (.tmp 13) rfl wb.heap.size (0) e13 (rootV ls) HLV.out (HR13.out w hb) HEV.out) (Below.refl _ _) rfl
          · refine StepOKl.of ?_
            intro ac w hb hu hk
            refine ⟨wanted_some rfl (hk ⟨21, .guard⟩ (by simp) rfl) rfl rfl (fun _ h => h), ?_⟩
            have e8 : ac.eval (.tmp 8) = .pointer (some ⟨w6.heap.size, 0, none⟩) := hu.is (t := 8) (by kernel_rfl)
            refine step_value (w' := w) (v := .agg V) (run_load_hash (.tmp 8) rfl w6.heap.size (0) e8 (rootV ls) HLV.out (HR8.out w hb) HEV.out) (Below.refl _ _) rfl
          · refine StepOKl.of ?_
            intro ac w hb hu hk
            refine ⟨wanted_some rfl (hk ⟨21, .guard⟩ (by simp) rfl) rfl rfl (fun _ h => h), ?_⟩
            have e88 : ac.eval (.tmp 88) = (.agg V) := (hk ⟨22, .data⟩ (by simp) rfl).is rfl rfl
            have e89 : ac.eval (.tmp 89) = (.agg V) := (hk ⟨23, .data⟩ (by simp) rfl).is rfl rfl
            refine step_value (w' := w) (v := .bool true) ?_ (Below.refl _ _) rfl
            have hq := HVV.out w
            generalize ac.eval = ρ at e88 e89 ⊢
            go_simp
          · refine StepOKl.of ?_
            intro ac w hb hu hk
            refine ⟨wanted_none rfl, ?_⟩
            have e87 : ac.eval (.tmp 87) = (.bool true) := (hk ⟨21, .data⟩ (by simp) rfl).is rfl rfl
            have e90 : ac.eval (.tmp 90) = (.bool true) := (hk ⟨24, .data⟩ (by simp) rfl).is rfl rfl
            exact step_value (run_pick_true e87 rfl w) (Below.refl _ _) e90
          · refine StepOKl.of ?_
            intro ac w hb hu hk
            refine ⟨wanted_none rfl, ?_⟩
            have e91 : ac.eval (.tmp 91) = (.bool true) := (hk ⟨25, .data⟩ (by simp) rfl).is rfl rfl
            exact step_value (BigFrame.run_move (.tmp 91) rfl w) (Below.refl _ _) e91
          · refine StepOKl.of ?_
            intro ac w hb hu hk
            refine ⟨wanted_some rfl (hk ⟨26, .guard⟩ (by simp) rfl) rfl rfl (fun _ h => h), ?_⟩
            have e8 : ac.eval (.tmp 8) = .pointer (some ⟨w6.heap.size, 0, none⟩) := hu.is (t := 8) (by kernel_rfl)
            refine step_value (w' := w) (v := .agg V) (run_load_hash (.tmp 8) rfl w6.heap.size (0) e8 (rootV ls) HLV.out (HR8.out w hb) HEV.out) (Below.refl _ _) rfl
          · refine StepOKl.of ?_
            intro ac w hb hu hk
            refine ⟨wanted_some rfl (hk ⟨26, .guard⟩ (by simp) rfl) rfl rfl (fun _ h => h), ?_⟩
            have e0 : ac.eval (.tmp 0) = .int .i64 (N : Int) := hu.is (t := 0) (by kernel_rfl)
            exact step_value (BigFrame.run_move (.tmp 0) rfl w) (Below.refl _ _) e0
          · refine StepOKl.of ?_
            intro ac w hb hu hk
            refine ⟨wanted_some rfl (hk ⟨26, .guard⟩ (by simp) rfl) rfl rfl (fun _ h => h), ?_⟩
            have e0 : ac.eval (.tmp 0) = .int .i64 (N : Int) := hu.is (t := 0) (by kernel_rfl)
            exact step_value (BigFrame.run_move (.tmp 0) rfl w) (Below.refl _ _) e0
          · refine StepOKl.of ?_
            intro ac w hb hu hk
            refine ⟨wanted_some rfl (hk ⟨26, .guard⟩ (by simp) rfl) rfl rfl (fun _ h => h), ?_⟩
            have e95 : ac.eval (.tmp 95) = (.int .i64 (N : Int)) := (hk ⟨29, .data⟩ (by simp) rfl).is rfl rfl
            refine step_value (w' := w) (v := (.int .i64 (J : Int))) ?_ (Below.refl _ _) rfl
            have ec0 : ac.eval (.const (Value.int IntKind.i64 1)) = Value.int IntKind.i64 1 := rfl
            generalize ac.eval = ρ at e95 ec0 ⊢
            go_simp
          · refine StepOKl.of ?_
            intro ac w hb hu hk
            refine ⟨wanted_some rfl (hk ⟨26, .guard⟩ (by simp) rfl) rfl rfl (fun _ h => h), ?_⟩
            have e5 : ac.eval (.tmp 5) = .slice (some ⟨gb, off, none⟩) N c := hu.is (t := 5) (by kernel_rfl)
            exact step_value (BigFrame.run_move (.tmp 5) rfl w) (Below.refl _ _) e5
          · refine StepOKl.of ?_
            intro ac w hb hu hk
            refine ⟨wanted_some rfl (hk ⟨26, .guard⟩ (by simp) rfl) rfl rfl (fun _ h => h), ?_⟩
            have e0 : ac.eval (.tmp 0) = .int .i64 (N : Int) := hu.is (t := 0) (by kernel_rfl)
            exact step_value (BigFrame.run_move (.tmp 0) rfl w) (Below.refl _ _) e0
          · refine StepOKl.of ?_
            intro ac w hb hu hk
            refine ⟨wanted_some rfl (hk ⟨26, .guard⟩ (by simp) rfl) rfl rfl (fun _ h => h), ?_⟩
            have e98 : ac.eval (.tmp 98) = (.int .i64 (N : Int)) := (hk ⟨32, .data⟩ (by simp) rfl).is rfl rfl
            refine step_value (w' := w) (v := (.int .i64 (J : Int))) ?_ (Below.refl _ _) rfl
            have ec0 : ac.eval (.const (Value.int IntKind.i64 1)) = Value.int IntKind.i64 1 := rfl
            generalize ac.eval = ρ at e98 ec0 ⊢
            go_simp
          · refine StepOKl.of ?_
            intro ac w hb hu hk
            refine ⟨wanted_some rfl (hk ⟨26, .guard⟩ (by simp) rfl) rfl rfl (fun _ h => h), ?_⟩
            have e97 : ac.eval (.tmp 97) = (.slice (some ⟨gb, off, none⟩) N c) := (hk ⟨31, .data⟩ (by simp) rfl).is rfl rfl
            have e99 : ac.eval (.tmp 99) = (.int .i64 (J : Int)) := (hk ⟨33, .data⟩ (by simp) rfl).is rfl rfl
            refine step_value (w' := w) (v := (.pointer (some ⟨gb, off + J * 32, none⟩))) ?_ (Below.refl _ _) rfl
            generalize ac.eval = ρ at e97 e99 ⊢
            go_simp
          · refine StepOKl.of ?_
            intro ac w hb hu hk
            refine ⟨wanted_some rfl (hk ⟨26, .guard⟩ (by simp) rfl) rfl rfl (fun _ h => h), ?_⟩
            have e100 : ac.eval (.tmp 100) = (.pointer (some ⟨gb, off + J * 32, none⟩)) := (hk ⟨34, .data⟩ (by simp) rfl).is rfl rfl
            refine step_value (w' := w) (v := .agg Y) (run_load_hash (.tmp 100) rfl gb (off + J * 32) e100 y HLY.out (HRG.out w hb) HEY.out) (Below.refl _ _) rfl
          · refine StepOKl.of ?_
            intro ac w hb hu hk
            refine ⟨wanted_some rfl (hk ⟨26, .guard⟩ (by simp) rfl) rfl rfl (fun _ h => h), ?_⟩
            have e11 : ac.eval (.tmp 11) = .slice A2 K c2 := hu.is (t := 11) (by kernel_rfl)
            exact step_value (BigFrame.run_move (.tmp 11) rfl w) (Below.refl _ _) e11
          · refine StepOKl.of ?_
            intro ac w hb hu hk
            refine ⟨wanted_some rfl (hk ⟨26, .chain⟩ (by simp) rfl) rfl rfl (fun _ h => h), ?_⟩
            have e93 : ac.eval (.tmp 93) = (.agg V) := (hk ⟨27, .data⟩ (by simp) rfl).is rfl rfl
            have e94 : ac.eval (.tmp 94) = (.int .i64 (N : Int)) := (hk ⟨28, .data⟩ (by simp) rfl).is rfl rfl
            have e96 : ac.eval (.tmp 96) = (.int .i64 (J : Int)) := (hk ⟨30, .data⟩ (by simp) rfl).is rfl rfl
            have e101 : ac.eval (.tmp 101) = (.agg Y) := (hk ⟨35, .data⟩ (by simp) rfl).is rfl rfl
            have e102 : ac.eval (.tmp 102) = (.slice A2 K c2) := (hk ⟨36, .data⟩ (by simp) rfl).is rfl rfl
            have ef : ac.eval (.func 17) = .func (.func 17) #[] #[] := rfl
            refine step_enter (f := 17) (args := #[.agg V, .int .i64 (N : Int), .int .i64 (J : Int), .agg Y, .slice A2 K c2]) ?_ ?_
            · generalize ac.eval = ρ at e93 e94 e96 e101 e102 ef ⊢
              go_simp
            · exact (HCK.out w hb).mono fun e w' ⟨he, hq⟩ => ⟨_, he, rfl, hq⟩
          · refine StepOKl.of ?_
            intro ac w hb hu hk
            refine ⟨wanted_none rfl, ?_⟩
            have e92 : ac.eval (.tmp 92) = (.bool true) := (hk ⟨26, .data⟩ (by simp) rfl).is rfl rfl
            have e103 : ac.eval (.tmp 103) = (.bool true) := (hk ⟨37, .data⟩ (by simp) rfl).is rfl rfl
            exact step_value (run_pick_true e92 rfl w) (Below.refl _ _) e103
          · refine StepOKl.of ?_
            intro ac w hb hu hk
            refine ⟨wanted_none rfl, ?_⟩
            have e104 : ac.eval (.tmp 104) = (.bool true) := (hk ⟨38, .data⟩ (by simp) rfl).is rfl rfl
            exact step_value (BigFrame.run_move (.tmp 104) rfl w) (Below.refl _ _) e104
          · refine StepOKl.of ?_
            intro ac w hb hu hk
            refine ⟨wanted_some rfl (hk ⟨39, .guard⟩ (by simp) rfl) rfl rfl (fun _ h => h), ?_⟩
            have e0 : ac.eval (.tmp 0) = .int .i64 (N : Int) := hu.is (t := 0) (by kernel_rfl)
            exact step_value (BigFrame.run_move (.tmp 0) rfl w) (Below.refl _ _) e0
          · refine StepOKl.of ?_
            intro ac w hb hu hk
            refine ⟨wanted_some rfl (hk ⟨39, .chain⟩ (by simp) rfl) rfl rfl (fun _ h => h), ?_⟩
            have e106 : ac.eval (.tmp 106) = (.int .i64 (N : Int)) := (hk ⟨40, .data⟩ (by simp) rfl).is rfl rfl
            have ef : ac.eval (.func 18) = .func (.func 18) #[] #[] := rfl
            refine step_enter (f := 18) (args := #[.int .i64 (N : Int)]) ?_ ?_
            · generalize ac.eval = ρ at e106 ef ⊢
              go_simp
            · exact (HPD.out w).mono fun e w' ⟨he, hq⟩ => ⟨_, he, rfl, hq ▸ Below.refl _ _⟩
          · refine StepOKl.of ?_
            intro ac w hb hu hk
            refine ⟨wanted_some rfl (hk ⟨39, .guard⟩ (by simp) rfl) rfl rfl (fun _ h => h), ?_⟩
            have e7 : ac.eval (.tmp 7) = .int .i64 (K : Int) := hu.is (t := 7) (by kernel_rfl)
            exact step_value (BigFrame.run_move (.tmp 7) rfl w) (Below.refl _ _) e7
          · refine StepOKl.of ?_
            intro ac w hb hu hk
            refine ⟨wanted_some rfl (hk ⟨39, .guard⟩ (by simp) rfl) rfl rfl (fun _ h => h), ?_⟩
            have e108 : ac.eval (.tmp 108) = (.int .i64 (K : Int)) := (hk ⟨42, .data⟩ (by simp) rfl).is rfl rfl
            refine step_value (w' := w) (v := (.int .u64 (K : Int))) ?_ (Below.refl _ _) rfl
            generalize ac.eval = ρ at e108 ⊢
            go_simp
          · refine StepOKl.of ?_
            intro ac w hb hu hk
            refine ⟨wanted_some rfl (hk ⟨39, .guard⟩ (by simp) rfl) rfl rfl (fun _ h => h), ?_⟩
            have e109 : ac.eval (.tmp 109) = (.int .u64 (K : Int)) := (hk ⟨43, .data⟩ (by simp) rfl).is rfl rfl
            refine step_value (w' := w) (v := (.int .i64 (pd : Int))) ?_ (Below.refl _ _) rfl
            have ec0 : ac.eval (.const (Value.int IntKind.i64 1)) = Value.int IntKind.i64 1 := rfl
            generalize ac.eval = ρ at e109 ec0 ⊢
            go_simp
          · refine StepOKl.of ?_
            intro ac w hb hu hk
            refine ⟨wanted_some rfl (hk ⟨39, .guard⟩ (by simp) rfl) rfl rfl (fun _ h => h), ?_⟩
            have e107 : ac.eval (.tmp 107) = (.int .i64 (pd : Int)) := (hk ⟨41, .data⟩ (by simp) rfl).is rfl rfl
            have e110 : ac.eval (.tmp 110) = (.int .i64 (pd : Int)) := (hk ⟨44, .data⟩ (by simp) rfl).is rfl rfl
            refine step_value (w' := w) (v := (.bool true)) ?_ (Below.refl _ _) rfl
            generalize ac.eval = ρ at e107 e110 ⊢
            go_simp
          · refine StepOKl.of ?_
            intro ac w hb hu hk
            refine ⟨wanted_none rfl, ?_⟩
            have e105 : ac.eval (.tmp 105) = (.bool true) := (hk ⟨39, .data⟩ (by simp) rfl).is rfl rfl
            have e111 : ac.eval (.tmp 111) = (.bool true) := (hk ⟨45, .data⟩ (by simp) rfl).is rfl rfl
            exact step_value (run_pick_true e105 rfl w) (Below.refl _ _) e111
          · refine StepOKl.of ?_
            intro ac w hb hu hk
            refine ⟨wanted_none rfl, ?_⟩
            have e112 : ac.eval (.tmp 112) = (.bool true) := (hk ⟨46, .data⟩ (by simp) rfl).is rfl rfl
            exact step_value (BigFrame.run_move (.tmp 112) rfl w) (Below.refl _ _) e112
          · refine StepOKl.of ?_
            intro ac w hb hu hk
            refine ⟨wanted_some rfl (hk ⟨47, .chain⟩ (by simp) rfl) rfl rfl (fun _ h => h), ?_⟩
            have ef : ac.eval (.func 19) = .func (.func 19) #[] #[] := rfl
            refine step_enter (f := 19) (args := #[]) ?_ ?_
            · generalize ac.eval = ρ at ef ⊢
              go_simp
            · exact (HWK.out w hb).mono fun e w' ⟨he, hq⟩ => ⟨_, he, rfl, hq⟩
          · refine StepOKl.of ?_
            intro ac w hb hu hk
            refine ⟨wanted_none rfl, ?_⟩
            have e113 : ac.eval (.tmp 113) = (.bool true) := (hk ⟨47, .data⟩ (by simp) rfl).is rfl rfl
            have e114 : ac.eval (.tmp 114) = (.bool true) := (hk ⟨48, .data⟩ (by simp) rfl).is rfl rfl
            exact step_value (run_pick_true e113 rfl w) (Below.refl _ _) e114
          · refine StepOKl.of ?_
            intro ac w hb hu hk
            refine ⟨wanted_none rfl, ?_⟩
            have e115 : ac.eval (.tmp 115) = (.bool true) := (hk ⟨49, .data⟩ (by simp) rfl).is rfl rfl
            exact step_value (BigFrame.run_assign (.tmp 115) rfl w) (Below.refl _ _) e115
          · intro ac w' hb hu hk hap
            obtain ⟨_, h4, rfl⟩ := (hk 50 (by decide)).put rfl rfl
            obtain ⟨_, h66, rfl⟩ := (hk 0 (by decide)).put rfl rfl
            obtain ⟨_, h67, rfl⟩ := (hk 1 (by decide)).put rfl rfl
            obtain ⟨_, h68, rfl⟩ := (hk 2 (by decide)).put rfl rfl
            obtain ⟨_, h69, rfl⟩ := (hk 3 (by decide)).put rfl rfl
            obtain ⟨_, h70, rfl⟩ := (hk 4 (by decide)).put rfl rfl
            obtain ⟨_, h71, rfl⟩ := (hk 5 (by decide)).put rfl rfl
            obtain ⟨_, h72, rfl⟩ := (hk 6 (by decide)).put rfl rfl
            obtain ⟨_, h73, rfl⟩ := (hk 7 (by decide)).put rfl rfl
            obtain ⟨_, h74, rfl⟩ := (hk 8 (by decide)).put rfl rfl
            obtain ⟨_, h75, rfl⟩ := (hk 9 (by decide)).put rfl rfl
            obtain ⟨_, h76, rfl⟩ := (hk 10 (by decide)).put rfl rfl
            obtain ⟨_, h77, rfl⟩ := (hk 11 (by decide)).put rfl rfl
            obtain ⟨_, h78, rfl⟩ := (hk 12 (by decide)).put rfl rfl
            obtain ⟨_, h79, rfl⟩ := (hk 13 (by decide)).put rfl rfl
            obtain ⟨_, h80, rfl⟩ := (hk 14 (by decide)).put rfl rfl
            obtain ⟨_, h81, rfl⟩ := (hk 15 (by decide)).put rfl rfl
            obtain ⟨_, h82, rfl⟩ := (hk 16 (by decide)).put rfl rfl
            obtain ⟨_, h83, rfl⟩ := (hk 17 (by decide)).put rfl rfl
            obtain ⟨_, h84, rfl⟩ := (hk 18 (by decide)).put rfl rfl
            obtain ⟨_, h85, rfl⟩ := (hk 19 (by decide)).put rfl rfl
            obtain ⟨_, h86, rfl⟩ := (hk 20 (by decide)).put rfl rfl
            obtain ⟨_, h87, rfl⟩ := (hk 21 (by decide)).put rfl rfl
            obtain ⟨_, h88, rfl⟩ := (hk 22 (by decide)).put rfl rfl
            obtain ⟨_, h89, rfl⟩ := (hk 23 (by decide)).put rfl rfl
            obtain ⟨_, h90, rfl⟩ := (hk 24 (by decide)).put rfl rfl
            obtain ⟨_, h91, rfl⟩ := (hk 25 (by decide)).put rfl rfl
            obtain ⟨_, h92, rfl⟩ := (hk 26 (by decide)).put rfl rfl
            obtain ⟨_, h93, rfl⟩ := (hk 27 (by decide)).put rfl rfl
            obtain ⟨_, h94, rfl⟩ := (hk 28 (by decide)).put rfl rfl
            obtain ⟨_, h95, rfl⟩ := (hk 29 (by decide)).put rfl rfl
            obtain ⟨_, h96, rfl⟩ := (hk 30 (by decide)).put rfl rfl
            obtain ⟨_, h97, rfl⟩ := (hk 31 (by decide)).put rfl rfl
            obtain ⟨_, h98, rfl⟩ := (hk 32 (by decide)).put rfl rfl
            obtain ⟨_, h99, rfl⟩ := (hk 33 (by decide)).put rfl rfl
            obtain ⟨_, h100, rfl⟩ := (hk 34 (by decide)).put rfl rfl
            obtain ⟨_, h101, rfl⟩ := (hk 35 (by decide)).put rfl rfl
            obtain ⟨_, h102, rfl⟩ := (hk 36 (by decide)).put rfl rfl
            obtain ⟨_, h103, rfl⟩ := (hk 37 (by decide)).put rfl rfl
            obtain ⟨_, h104, rfl⟩ := (hk 38 (by decide)).put rfl rfl
            obtain ⟨_, h105, rfl⟩ := (hk 39 (by decide)).put rfl rfl
            obtain ⟨_, h106, rfl⟩ := (hk 40 (by decide)).put rfl rfl
            obtain ⟨_, h107, rfl⟩ := (hk 41 (by decide)).put rfl rfl
            obtain ⟨_, h108, rfl⟩ := (hk 42 (by decide)).put rfl rfl
            obtain ⟨_, h109, rfl⟩ := (hk 43 (by decide)).put rfl rfl
            obtain ⟨_, h110, rfl⟩ := (hk 44 (by decide)).put rfl rfl
            obtain ⟨_, h111, rfl⟩ := (hk 45 (by decide)).put rfl rfl
            obtain ⟨_, h112, rfl⟩ := (hk 46 (by decide)).put rfl rfl
            obtain ⟨_, h113, rfl⟩ := (hk 47 (by decide)).put rfl rfl
            obtain ⟨_, h114, rfl⟩ := (hk 48 (by decide)).put rfl rfl
            obtain ⟨_, h115, rfl⟩ := (hk 49 (by decide)).put rfl rfl
            clear hap
            have hF : AllPuts ac.tmps ((4, _) :: (66, _) :: (67, _) :: (68, _) :: (69, _) :: (70, _) :: (71, _) :: (72, _) :: (73, _) :: (74, _) :: (75, _) :: (76, _) :: (77, _) :: (78, _) :: (79, _) :: (80, _) :: (81, _) :: (82, _) :: (83, _) :: (84, _) :: (85, _) :: (86, _) :: (87, _) :: (88, _) :: (89, _) :: (90, _) :: (91, _) :: (92, _) :: (93, _) :: (94, _) :: (95, _) :: (96, _) :: (97, _) :: (98, _) :: (99, _) :: (100, _) :: (101, _) :: (102, _) :: (103, _) :: (104, _) :: (105, _) :: (106, _) :: (107, _) :: (108, _) :: (109, _) :: (110, _) :: (111, _) :: (112, _) :: (113, _) :: (114, _) :: (115, _) :: []) := ⟨h4, h66, h67, h68, h69, h70, h71, h72, h73, h74, h75, h76, h77, h78, h79, h80, h81, h82, h83, h84, h85, h86, h87, h88, h89, h90, h91, h92, h93, h94, h95, h96, h97, h98, h99, h100, h101, h102, h103, h104, h105, h106, h107, h108, h109, h110, h111, h112, h113, h114, h115, trivial⟩
            obtain rfl := frame_puts hu (by kernel_rfl) hF
            simp only [puts, Act.put, List.setIfInBounds_toArray, List.set_cons_zero, List.set_cons_succ, List.drop_succ_cons, List.drop_nil]
            clear hk hu hF h4 h66 h67 h68 h69 h70 h71 h72 h73 h74 h75 h76 h77 h78 h79 h80 h81 h82 h83 h84 h85 h86 h87 h88 h89 h90 h91 h92 h93 h94 h95 h96 h97 h98 h99 h100 h101 h102 h103 h104 h105 h106 h107 h108 h109 h110 h111 h112 h113 h114 h115
            have HBE := Lib.hid (HBO.out.trans ((HBW.out.trans (hb.mono HBW.out.size)).mono HBO.out.size))
            clear hb HCK HWK
            go_wp2_with fail
            go_ret
            exact ⟨by kernel_rfl, HBE.out⟩

set_option maxRecDepth 100000 in
theorem contract (H : Type) (enc : TypeId × Value → H) (W : World) (base : Nat) (args : Array Value) (ds gs : List (DataW H)) (before : List MemPlace)
    (hval : ∀ (j : Nat) t v, Tryd.f3.params[j]? = some t → args[j]? = some v → Value.okWide Tryd.prog W .any base t v)
    (hW : DataW.Whole enc Tryd.prog Tryd.f3.params.toList Rows.treeHighSpec.vars false W args.toList ds gs before) (hL : laidMetH Tryd.prog Rows.treeHighRow.laid W) :
    Calls Tryd.prog 3 args W fun e W' => ∃ v, e = .returned v ∧ Rows.treeHighSpec.post enc Tryd.prog Tryd.f3 false true false false W args v W' := by
  have hW' := hW
  obtain ⟨p, q, hA0, hV, rfl, hfz, hnd⟩ := hW
  have hA : DataW.TrodAll enc Tryd.prog W 0 (fun _ => true) true Tryd.f3.params.toList args.toList ds p := hA0
  rw [Tryd.params3] at hA hval
  obtain ⟨v0, v1, d0, d1, p0, p1, rfl, rfl, rfl, h0, h1⟩ := trodAll_two hA
  obtain ⟨rfl, rfl⟩ := trodVars_none hV
  obtain ⟨n0, rfl, rfl, rfl, wf0⟩ := open_int Tryd.underlying3 (hval 0 3 v0 rfl rfl) h0
  have b0 := bounds_i64 wf0
  obtain ⟨n1, rfl, rfl, rfl, wf1⟩ := open_int Tryd.underlying3 (hval 1 3 v1 rfl rfl) h1
  have b1 := bounds_i64 wf1
  clear hA0
  refine (walk n0 n1 W b0.1 b0.2 b1.1 b1.2 (pow10 hL)).mono fun e W' ⟨he, hb⟩ => ?_
  exact ⟨_, he, law_post hW' rfl (by kernel_rfl) rfl (by kernel_rfl) hb⟩

theorem laid_met (os : Os) : laidMet Tryd.prog Rows.treeHighRow.laid ((laidWorld os).forCall (fun _ _ => 0) ⟨#[], #[.int .i64 0, .int .i64 0], []⟩).memory :=
  laidMet_of_run' 8 (by kernel_rfl) (by kernel_rfl)
theorem reads (os : Os) {H : Type} (enc : TypeId × Value → H) : ∃ places, DataW.whole enc Tryd.prog ((laidWorld os).forCall (fun _ _ => 0) ⟨#[], #[.int .i64 0, .int .i64 0], []⟩).memory Tryd.f3.params.toList Rows.treeHighSpec.vars false #[Value.int .i64 0, Value.int .i64 0].toList 8 = some ([.lit (.int .i64 0), .lit (.int .i64 0)], [], places) :=
  ⟨[], by kernel_rfl⟩

set_option maxRecDepth 100000 in
theorem lifted (os : Os) (started : os.Started) (H : Type) (enc : TypeId × Value → H) (F : Stop.Interp) :
    ReturnsInHanded {} Tryd.checked os 3 .any ((OpenSpec.ofChange Rows.treeHighSpec).preRow enc Tryd.prog Tryd.f3 Rows.treeHighRow.domain false Rows.treeHighRow.laid) (((OpenSpec.ofChange Rows.treeHighSpec).at F).post enc Tryd.prog Tryd.f3 false true false false) := by
  obtain ⟨places, hx⟩ := reads os enc
  refine returnsInHanded_of_row (C := Tryd.checked) (s := OpenSpec.ofChange Rows.treeHighSpec) own started (by kernel_rfl) Tryd.func3
    (witness_row_at (enc := enc) (C := Tryd.checked) false (laidWorld os) #[.int .i64 0, .int .i64 0] rfl (by kernel_rfl) (by kernel_rfl) (by kernel_rfl)
      (OpenSpec.preRow_of_cond 8 hx (by kernel_rfl) (fun k hk => by cases hk) (by kernel_rfl) (laid_met os))) ?_
  intro W base args ds gs before hval hW _ _ _ hL _ _
  exact contract H enc W base args ds gs before hval hW hL

theorem said : Rows.TreeHighSaid :=
  OpenClaim.holds_of_cond 3 Tryd.f3 rfl rfl rfl rfl rfl rfl rfl ⟨rfl, rfl, rfl, rfl, rfl⟩ rfl rfl rfl rfl rfl (by kernel_rfl) Tryd.func3 (by kernel_rfl)
    (of_decide_eq_true (by kernel_rfl)) (by unfold Func.isWrapper; first | (rw [if_pos (by decide +kernel)]; kernel_rfl) | (rw [if_neg (by decide +kernel)]; exact ⟨rfl, rfl⟩))
    (fun os started H enc _ F => by rw [OpenClaim.pre_eq_preRow]; exact lifted os started H enc F)

theorem plain (f : FuncId) (fn : Func) (hf : Tryd.pinned.checked.prog.funcNamed "aumbry/aumbrylaw07.TreeHigh" = some f) (hfn : Tryd.pinned.checked.prog.funcs[f]? = some fn) :
    false = Tryd.pinned.checked.prog.looks [] ∧ ∀ (j : Nat) t, fn.params[j]? = some t → Tryd.pinned.checked.prog.wantsStandIn t = false := by
  obtain rfl : f = 3 := Option.some.inj ((show Tryd.prog.funcNamed "aumbry/aumbrylaw07.TreeHigh" = some 3 by kernel_rfl).symm.trans hf) |>.symm
  obtain rfl : fn = Tryd.f3 := (Option.some.inj (Tryd.func3.symm.trans hfn)).symm
  refine ⟨by kernel_rfl, fun j t ht => ?_⟩
  exact wants_none (by kernel_rfl) (Array.mem_of_getElem? ht)

/-- The card: the statement holds, its listed tables tied to the program's text. -/
theorem card : Rows.TreeHighCardSaid :=
  Claim7.holds_tied_plain_at .later [] _ _ _ _ said (fun _ h => by cases h) (by kernel_rfl) (fun _ h => by cases h) treeHigh_row_tie rfl ⟨rfl, rfl⟩ (by kernel_rfl) rfl plain (by kernel_rfl)
end Go.Proofs.YtpfhhbfjemmkaaaDoor.treeHigh
