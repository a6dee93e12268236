/- MssSigns: a leaf's signature of any message; of what is no leaf there is none. For all seeds, heights, leaves and messages. -/
import Derived.Test.YtfgieebccjoboaaDoorLaw
import Derived.Test.YtfgieebccjoboaaDoorSix
import Derived.Test.YtfgieebccjoboaaDoorLaw9
import Derived.Test.YtfgieebccjoboaaDoorMssS
import Derived.Test.YtfgieebccjoboaaDoorHashD
namespace Go.Proofs.YtfgieebccjoboaaDoor.mssSigns
open Go.ChangeShapes Go.WideShapes Go.ChangeAt Go.RowKit

set_option maxRecDepth 100000 in
set_option maxHeartbeats 16000000 in
theorem walk (sd : List UInt8) (height leaf : Int) (A3 : Option Addr) (n3 c3 : Nat) (m3 : List UInt8) (w : World) (hs : sd.length = 16) (heightl : -9223372036854775808 ≤ height) (heighth : height ≤ 9223372036854775807) (leafl : -9223372036854775808 ≤ leaf) (leafh : leaf ≤ 9223372036854775807) (hn3 : m3.length = n3) (hc3 : n3 ≤ c3) (hcm3 : c3 ≤ maxLen) (hr3 : Rd w w.heap.size A3 m3) (htab : Pow10 w.heap.size w) :
    Calls Tryd.prog 6 #[.agg (u8A sd), .int .i64 height, .int .i64 leaf, .slice A3 n3 c3] w fun e w' => e = .returned (.bool true) ∧ Below w.heap.size w w' := by
  obtain ⟨p, hp, hpn⟩ : ∃ p : Nat, withinI height 3 = (p : Int) ∧ (p : Int) < 3 := by
    have := withinI_range height 3 (by omega)
    exact ⟨(withinI height 3).toNat, by omega, by omega⟩
  have HWI := Lib.hid (fun W => (show Calls Tryd.prog 11 #[.int .i64 height, .int .i64 3] W fun e w' => e = .returned (.int .i64 (p : Int)) ∧ W = w' from by rw [← hp]; exact within_any height 3 W (by omega) (by omega) (by omega)))
  obtain ⟨M, hM⟩ : ∃ M, min n3 60 = M := ⟨_, rfl⟩
  have HC3 := Lib.hid (fun W => (show Calls Tryd.prog 12 #[.slice A3 n3 c3, .int .i64 60] W fun e W' => e = .returned (.slice A3 M c3) ∧ W = W' from by
    rw [← hM]
    exact cut_any A3 n3 c3 60 W hc3))
  have hMk : M ≤ 60 := by omega
  have hMc : M ≤ c3 := by omega
  obtain ⟨bl, hbl⟩ : ∃ x, m3.take 60 = x := ⟨_, rfl⟩
  have hbln : bl.length = M := by rw [← hbl, List.length_take, hn3]; omega
  have hblr : Rd w w.heap.size A3 bl := by rw [← hbl]; exact hr3.take 60
  have HTAB := Lib.hid htab
  obtain ⟨X, hX⟩ : ∃ x, u8A sd = x := ⟨_, rfl⟩
  have HEX := Lib.hid hX
  have HZX := Lib.hid (show X.size = 16 by rw [← hX, u8A_size]; exact hs)
  have HOX := Lib.hid (show X.all (·.oneCell') = true by rw [← hX]; exact u8A_one _)
  have hp4 : p ≤ 4 := by omega
  obtain ⟨N, hN⟩ : ∃ N, 2 ^ p = N := ⟨_, rfl⟩
  have hN16 : N ≤ 16 := by rw [← hN]; exact Nat.pow_le_pow_right (n := 2) (by omega) (by omega)
  have hN1 : 1 ≤ N := by rw [← hN]; exact Nat.pos_of_ne_zero (by simp)
  have hp1 : (2 : Int) ^ p = (N : Int) := by rw [← hN]; simp
  by_cases hl : leaf < 0
  · have HSI := Lib.hid (fun W (hW : Below w.heap.size w W) => (show Calls Tryd.prog 14 #[.agg X, .int .i64 (p : Int), .int .i64 leaf, .slice A3 M c3] W fun e w' => e = .returned (.tuple #[.agg sig0, .int .i64 1]) ∧ Below W.heap.size W w' from by
      rw [← hX]
      exact psig9_no sd (p : Int) leaf A3 M c3 W (by rw [cntN_nat hp4, hN]; omega) hs (tab_on htab hW hW.size)))
    have HSG := Lib.hid (fun W => ksig9_true 0 0 none none none none 0 0 0 0 0 0 [] [] W (hv_nil W) (hv_nil W) (hv_nil W) (hv_nil W) (by simp) (by simp))
    rw [hX]
    clear hX htab hp hN hbl hM hn3 hr3 hblr
    go_enter Tryd.func6, Tryd.ntmps6
    go_upto_region 1 with fail
    generalize hw1 : World.alloc _ _ = w3
    obtain ⟨g4, hg4⟩ : ∃ g, w.heap.size = g := ⟨_, rfl⟩
    have hf : Blk w3 g4 X 23 ∧ Below w.heap.size w w3 := by
      have hw : w3 = (w.alloc (.cells X 23)) := hw1.symm
      rw [hw, ← hg4]
      exact ⟨by exact Blk.new _ _ _, ((Below.refl _ _).alloc (Nat.le_refl _) _)⟩
    have HB4 := Lib.hid hf.1
    have HBW := Lib.hid hf.2
    have HG4 := Lib.hid (show w.heap.size ≤ g4 by omega)
    clear hf hw1
    rw [hg4]
    clear hg4
    go_wp2_with fail
    with_reducible refine (HWI.out _).mono ?_
    rintro e wx ⟨rfl, rfl⟩
    go_wp2_with fail
    with_reducible refine (HC3.out _).mono ?_
    rintro e wx ⟨rfl, rfl⟩
    clear HWI HC3
    go_wp2_with (with_reducible refine wpList_load_blk rfl 23 (.tmp 4) rfl g4 rfl 23 X _ HB4.out Tryd.underlying23 rfl (by rw [HZX.out]; kernel_rfl) ?_)
    with_reducible refine (HSI.out w3 HBW.out).mono ?_
    rintro e w4 ⟨rfl, hb⟩
    obtain ⟨SA, hSA⟩ : ∃ x, sig0 = x := ⟨_, rfl⟩
    have HESA := Lib.hid hSA
    have HZSA := Lib.hid (show SA.size = 4 by rw [← hSA]; rfl)
    have HOSA := Lib.hid (show SA.all (·.oneCell') = true by rw [← hSA]; exact sigA_one _ _ _ _ _ _ _ _)
    replace HBW := Lib.hid (HBW.out.trans (hb.mono HBW.out.size))
    rw [hSA]
    clear hb hSA HSI HB4
    go_upto_region 4 with (with_reducible refine wpList_store_blk rfl 35 (.tmp 9) (.tmp 21) rfl w4.heap.size SA rfl rfl 35 _ (Blk.new _ _ _) (by rw [HZSA.out]; kernel_rfl) (by rw [HZSA.out]; kernel_rfl) HOSA.out ?_)
    generalize hwn : World.setRow _ _ _ = w5
    have hal : Below w4.heap.size w4 w5 := by
      rw [← hwn]
      exact below_row ((Below.refl _ _).alloc (Nat.le_refl _) _) (by simp) (Nat.le_refl _) _
    have HB9 := Lib.hid (show Blk w5 w4.heap.size SA 35 by
      rw [← hwn]
      exact (Blk.new _ _ _).row _)
    obtain ⟨g9, hgn⟩ : ∃ g, w4.heap.size = g := ⟨_, rfl⟩
    replace HBW := Lib.hid (HBW.out.trans (hal.mono HBW.out.size))
    rw [hgn] at HB9 ⊢
    clear hal hwn hgn
    have HWK := Lib.hid (fun W (hW : Below w5.heap.size w5 W) => wakes9_any W (tab_on HTAB.out (HBW.out.trans (hW.mono HBW.out.size)) (HBW.out.trans (hW.mono HBW.out.size)).size))
    have HSH := Lib.hid (show Calls Tryd.prog 25 #[.agg SA, .agg sig0] w5 fun e w' => e = .returned (.bool true) ∧ Below w5.heap.size w5 w' from by rw [← HESA.out]; exact HSG.out w5)
    go_wp2_with (first
      | (refine wpList_load_sw9 (.tmp 9) rfl g9 rfl SA HB9.out HZSA.out ?_ ?_; · rfl)
      | (refine wpList_build_sig_w9 rfl ?_ ?_; · rfl))
    with_reducible refine (HSH.out).mono ?_
    rintro e w6 ⟨rfl, hb⟩
    have HW6 := Lib.hid (HWK.out w6 hb)
    replace HBW := Lib.hid (HBW.out.trans (hb.mono HBW.out.size))
    clear hb HWK HSH HSG
    go_wp2_with fail
    with_reducible refine (HW6.out).mono ?_
    rintro e w7 ⟨rfl, hb⟩
    replace HBW := Lib.hid (HBW.out.trans (hb.mono HBW.out.size))
    clear hb HW6
    go_wp2_with fail
    go_ret
    exact ⟨by first | rfl | kernel_rfl, HBW.out⟩
  · by_cases hg : leaf ≥ (N : Int)
    · have HSI := Lib.hid (fun W (hW : Below w.heap.size w W) => (show Calls Tryd.prog 14 #[.agg X, .int .i64 (p : Int), .int .i64 leaf, .slice A3 M c3] W fun e w' => e = .returned (.tuple #[.agg sig0, .int .i64 1]) ∧ Below W.heap.size W w' from by
        rw [← hX]
        exact psig9_no sd (p : Int) leaf A3 M c3 W (by rw [cntN_nat hp4, hN]; omega) hs (tab_on htab hW hW.size)))
      have HSG := Lib.hid (fun W => ksig9_true 0 0 none none none none 0 0 0 0 0 0 [] [] W (hv_nil W) (hv_nil W) (hv_nil W) (hv_nil W) (by simp) (by simp))
      rw [hX]
      clear hX htab hp hN hbl hM hn3 hr3 hblr
      go_enter Tryd.func6, Tryd.ntmps6
      go_upto_region 1 with fail
      generalize hw1 : World.alloc _ _ = w3
      obtain ⟨g4, hg4⟩ : ∃ g, w.heap.size = g := ⟨_, rfl⟩
      have hf : Blk w3 g4 X 23 ∧ Below w.heap.size w w3 := by
        have hw : w3 = (w.alloc (.cells X 23)) := hw1.symm
        rw [hw, ← hg4]
        exact ⟨by exact Blk.new _ _ _, ((Below.refl _ _).alloc (Nat.le_refl _) _)⟩
      have HB4 := Lib.hid hf.1
      have HBW := Lib.hid hf.2
      have HG4 := Lib.hid (show w.heap.size ≤ g4 by omega)
      clear hf hw1
      rw [hg4]
      clear hg4
      go_wp2_with fail
      with_reducible refine (HWI.out _).mono ?_
      rintro e wx ⟨rfl, rfl⟩
      go_wp2_with fail
      with_reducible refine (HC3.out _).mono ?_
      rintro e wx ⟨rfl, rfl⟩
      clear HWI HC3
      go_wp2_with (with_reducible refine wpList_load_blk rfl 23 (.tmp 4) rfl g4 rfl 23 X _ HB4.out Tryd.underlying23 rfl (by rw [HZX.out]; kernel_rfl) ?_)
      with_reducible refine (HSI.out w3 HBW.out).mono ?_
      rintro e w4 ⟨rfl, hb⟩
      obtain ⟨SA, hSA⟩ : ∃ x, sig0 = x := ⟨_, rfl⟩
      have HESA := Lib.hid hSA
      have HZSA := Lib.hid (show SA.size = 4 by rw [← hSA]; rfl)
      have HOSA := Lib.hid (show SA.all (·.oneCell') = true by rw [← hSA]; exact sigA_one _ _ _ _ _ _ _ _)
      replace HBW := Lib.hid (HBW.out.trans (hb.mono HBW.out.size))
      rw [hSA]
      clear hb hSA HSI HB4
      go_upto_region 4 with (with_reducible refine wpList_store_blk rfl 35 (.tmp 9) (.tmp 21) rfl w4.heap.size SA rfl rfl 35 _ (Blk.new _ _ _) (by rw [HZSA.out]; kernel_rfl) (by rw [HZSA.out]; kernel_rfl) HOSA.out ?_)
      generalize hwn : World.setRow _ _ _ = w5
      have hal : Below w4.heap.size w4 w5 := by
        rw [← hwn]
        exact below_row ((Below.refl _ _).alloc (Nat.le_refl _) _) (by simp) (Nat.le_refl _) _
      have HB9 := Lib.hid (show Blk w5 w4.heap.size SA 35 by
        rw [← hwn]
        exact (Blk.new _ _ _).row _)
      obtain ⟨g9, hgn⟩ : ∃ g, w4.heap.size = g := ⟨_, rfl⟩
      replace HBW := Lib.hid (HBW.out.trans (hal.mono HBW.out.size))
      rw [hgn] at HB9 ⊢
      clear hal hwn hgn
      have HWK := Lib.hid (fun W (hW : Below w5.heap.size w5 W) => wakes9_any W (tab_on HTAB.out (HBW.out.trans (hW.mono HBW.out.size)) (HBW.out.trans (hW.mono HBW.out.size)).size))
      have HSH := Lib.hid (show Calls Tryd.prog 25 #[.agg SA, .agg sig0] w5 fun e w' => e = .returned (.bool true) ∧ Below w5.heap.size w5 w' from by rw [← HESA.out]; exact HSG.out w5)
      go_wp2_with (first
        | (refine wpList_load_sw9 (.tmp 9) rfl g9 rfl SA HB9.out HZSA.out ?_ ?_; · rfl)
        | (refine wpList_build_sig_w9 rfl ?_ ?_; · rfl))
      with_reducible refine (HSH.out).mono ?_
      rintro e w6 ⟨rfl, hb⟩
      have HW6 := Lib.hid (HWK.out w6 hb)
      replace HBW := Lib.hid (HBW.out.trans (hb.mono HBW.out.size))
      clear hb HWK HSH HSG
      go_wp2_with fail
      with_reducible refine (HW6.out).mono ?_
      rintro e w7 ⟨rfl, hb⟩
      replace HBW := Lib.hid (HBW.out.trans (hb.mono HBW.out.size))
      clear hb HW6
      go_wp2_with fail
      go_ret
      exact ⟨by first | rfl | kernel_rfl, HBW.out⟩
    · obtain ⟨i, hi⟩ : ∃ i : Nat, leaf = (i : Int) := ⟨leaf.toNat, by omega⟩
      subst hi
      have hiN : i < N := by omega
      have hcn : cntN (p : Int) = N := by rw [cntN_nat hp4, hN]
      obtain ⟨sg, hsg⟩ : ∃ x, atL (signF sd (i : Int) (digH (msgH bl))) 67 = x := ⟨_, rfl⟩
      obtain ⟨pv, hpv⟩ : ∃ x, proofV (pubsL sd N) i = x := ⟨_, rfl⟩
      have hpl : pv.length = p := by rw [← hpv, ← hN]; exact proofV_len9 sd p i
      have hsl : sg.length = 67 := by rw [← hsg]; exact atL_len _ _
      have HSI := Lib.hid (fun W (hW : Below w.heap.size w W) => (show Calls Tryd.prog 14 #[.agg X, .int .i64 (p : Int), .int .i64 (i : Int), .slice A3 M c3] W fun e w' => ∃ V cv P cp, e = .returned (.tuple #[.agg (sigA (p : Int) (i : Int) V P 67 cv p cp), .int .i64 0]) ∧ HV w' (.slice V 67 cv) sg ∧ HV w' (.slice P p cp) pv ∧ Below W.heap.size W w' from by
        have h := psig9_yes sd (p : Int) i A3 M c3 bl W (by rw [hcn]; exact hiN) hs hbln (by omega) hMc hcm3 (hblr.on hW) (tab_on htab hW hW.size)
        rw [hcn, hpv, hsg, hpl, hX] at h
        refine h.mono ?_
        rintro e w' ⟨V, cv, P, cp, he, h1, h2, hb⟩
        exact ⟨V, cv, P, cp, he, h1.hv, h2.hv, hb⟩))
      have HRS := Lib.hid (fun W (hW : Below w.heap.size w W) => (show Calls Tryd.prog 26 #[.agg X, .int .i64 (p : Int), .int .i64 (i : Int), .slice A3 M c3] W fun e w' => ∃ V cv P cp, e = .returned (.agg (sigA (p : Int) (i : Int) V P 67 cv p cp)) ∧ HV w' (.slice V 67 cv) sg ∧ HV w' (.slice P p cp) pv ∧ Below W.heap.size W w' from by
        have h := rsig9_any sd p i A3 M c3 bl W hs (by omega) (by rw [hN]; exact hiN) hbln (by omega) hMc hcm3 (hblr.on hW)
        rw [hN, hpv, hsg, hX] at h
        exact h))
      have HLS := Lib.hid (show sg.length ≤ 100000 ∧ pv.length ≤ 100000 by omega)
      rw [hX]
      have hl0 : ¬ (i : Int) < 0 := by omega
      have hl1 : ¬ (i : Int) ≥ (N : Int) := by omega
      clear hX htab hp hN hsg hpv hpl hsl hcn hbl hM hn3 hr3 hblr
      go_enter Tryd.func6, Tryd.ntmps6
      go_upto_region 1 with fail
      generalize hw1 : World.alloc _ _ = w3
      obtain ⟨g4, hg4⟩ : ∃ g, w.heap.size = g := ⟨_, rfl⟩
      have hf : Blk w3 g4 X 23 ∧ Below w.heap.size w w3 := by
        have hw : w3 = (w.alloc (.cells X 23)) := hw1.symm
        rw [hw, ← hg4]
        exact ⟨by exact Blk.new _ _ _, ((Below.refl _ _).alloc (Nat.le_refl _) _)⟩
      have HB4 := Lib.hid hf.1
      have HBW := Lib.hid hf.2
      have HG4 := Lib.hid (show w.heap.size ≤ g4 by omega)
      clear hf hw1
      rw [hg4]
      clear hg4
      go_wp2_with fail
      with_reducible refine (HWI.out _).mono ?_
      rintro e wx ⟨rfl, rfl⟩
      go_wp2_with fail
      with_reducible refine (HC3.out _).mono ?_
      rintro e wx ⟨rfl, rfl⟩
      clear HWI HC3
      go_wp2_with (with_reducible refine wpList_load_blk rfl 23 (.tmp 4) rfl g4 rfl 23 X _ HB4.out Tryd.underlying23 rfl (by rw [HZX.out]; kernel_rfl) ?_)
      with_reducible refine (HSI.out w3 HBW.out).mono ?_
      rintro e w4 ⟨V, cv, P, cp, rfl, hv1, hv2, hb⟩
      have HV1 := Lib.hid hv1
      have HV2 := Lib.hid hv2
      obtain ⟨SA, hSA⟩ : ∃ x, sigA (p : Int) (i : Int) V P 67 cv p cp = x := ⟨_, rfl⟩
      have HESA := Lib.hid hSA
      have HZSA := Lib.hid (show SA.size = 4 by rw [← hSA]; rfl)
      have HOSA := Lib.hid (show SA.all (·.oneCell') = true by rw [← hSA]; exact sigA_one _ _ _ _ _ _ _ _)
      replace HB4 := Lib.hid (HB4.out.below hb HB4.out.lt)
      replace HBW := Lib.hid (HBW.out.trans (hb.mono HBW.out.size))
      rw [hSA]
      clear hb hv1 hv2 hSA HSI
      go_upto_region 4 with (with_reducible refine wpList_store_blk rfl 35 (.tmp 9) (.tmp 21) rfl w4.heap.size SA rfl rfl 35 _ (Blk.new _ _ _) (by rw [HZSA.out]; kernel_rfl) (by rw [HZSA.out]; kernel_rfl) HOSA.out ?_)
      generalize hwn : World.setRow _ _ _ = w5
      have hal : Below w4.heap.size w4 w5 := by
        rw [← hwn]
        exact below_row ((Below.refl _ _).alloc (Nat.le_refl _) _) (by simp) (Nat.le_refl _) _
      have HB9 := Lib.hid (show Blk w5 w4.heap.size SA 35 by
        rw [← hwn]
        exact (Blk.new _ _ _).row _)
      obtain ⟨g9, hgn⟩ : ∃ g, w4.heap.size = g := ⟨_, rfl⟩
      replace HV1 := Lib.hid (HV1.out.on hal)
      replace HV2 := Lib.hid (HV2.out.on hal)
      replace HB4 := Lib.hid (HB4.out.below hal HB4.out.lt)
      replace HBW := Lib.hid (HBW.out.trans (hal.mono HBW.out.size))
      rw [hgn] at HB9 ⊢
      clear hal hwn hgn
      have HWK := Lib.hid (fun W (hW : Below w5.heap.size w5 W) => wakes9_any W (tab_on HTAB.out (HBW.out.trans (hW.mono HBW.out.size)) (HBW.out.trans (hW.mono HBW.out.size)).size))
      have HBX := Lib.hid (fun W (hW : Below w5.heap.size w5 W) => HB4.out.below hW HB4.out.lt)
      have HBS := Lib.hid (fun W (hW : Below w5.heap.size w5 W) => HB9.out.below hW HB9.out.lt)
      have HSG := Lib.hid (fun V2 c2 P2 d2 W (hW : Below w5.heap.size w5 W) (h1 : HV W (.slice V2 67 c2) sg) (h2 : HV W (.slice P2 p d2) pv) => (show Calls Tryd.prog 25 #[.agg SA, .agg (sigA (p : Int) (i : Int) V2 P2 67 c2 p d2)] W fun e w' => e = .returned (.bool true) ∧ Below W.heap.size W w' from by
        rw [← HESA.out]
        exact ksig9_true (p : Int) (i : Int) V P V2 P2 67 cv c2 p cp d2 sg pv W (HV1.out.on hW) h1 (HV2.out.on hW) h2 HLS.out.1 HLS.out.2))
      go_wp2_with fail
      refine wp_region_loose 14 1 (fun i => false) (promises [.is (.int .i64 0), .is (.bool true), .is (.bool true), .is (.agg SA), .is (.agg X), .is (.int .i64 (p : Int)), .is (.int .i64 (i : Int)), .is (.slice A3 M c3), .sv (p : Int) (i : Int) p sg pv, .is (.bool true), .is (.bool true), .is (.bool true), .is (.bool true), .is (.bool true)]) (by kernel_rfl) rfl (by kernel_rfl) (fun i v w w' h hb => Spec.keep h hb) ⟨?_, ?_, ?_, ?_, ?_, ?_, ?_, ?_, ?_, ?_, ?_, ?_, ?_, ?_, trivial⟩ ?_
      · refine StepOKl.of ?_
        intro ac w hb hu hk
        refine ⟨wanted_none rfl, ?_⟩
        have e10 : ac.eval (.tmp 10) = .int .i64 0 := hu.is (t := 10) (by kernel_rfl)
        exact step_value (BigFrame.run_move (.tmp 10) rfl w) (Below.refl _ _) e10
      · refine StepOKl.of ?_
        intro ac w hb hu hk
        refine ⟨wanted_none rfl, ?_⟩
        have e42 : ac.eval (.tmp 42) = (.int .i64 0) := (hk ⟨0, .data⟩ (by simp) rfl).is rfl rfl
        refine step_value (w' := w) (v := (.bool true)) ?_ (Below.refl _ _) rfl
        have ec0 : ac.eval (.const (Value.int IntKind.i64 0)) = Value.int IntKind.i64 0 := rfl
        generalize ac.eval = ρ at e42 ec0 ⊢
        go_simp
      · refine StepOKl.of ?_
        intro ac w hb hu hk
        refine ⟨wanted_none rfl, ?_⟩
        have e43 : ac.eval (.tmp 43) = (.bool true) := (hk ⟨1, .data⟩ (by simp) rfl).is rfl rfl
        exact step_value (BigFrame.run_move (.tmp 43) rfl w) (Below.refl _ _) e43
      · refine StepOKl.of ?_
        intro ac w hb hu hk
        refine ⟨wanted_some rfl (hk ⟨2, .guard⟩ (by simp) rfl) rfl rfl (fun _ h => h), ?_⟩
        have e9 : ac.eval (.tmp 9) = .pointer (some ⟨g9, 0, none⟩) := hu.is (t := 9) (by kernel_rfl)
        exact wp_load_row 35 (.tmp 9) rfl g9 e9 35 SA (0, 0) _ (HBS.out w hb) Tryd.underlying35 rfl (by rw [HZSA.out]; kernel_rfl) ⟨_, rfl, rfl, Below.refl _ _⟩
      · refine StepOKl.of ?_
        intro ac w hb hu hk
        refine ⟨wanted_some rfl (hk ⟨2, .guard⟩ (by simp) rfl) rfl rfl (fun _ h => h), ?_⟩
        have e4 : ac.eval (.tmp 4) = .pointer (some ⟨g4, 0, none⟩) := hu.is (t := 4) (by kernel_rfl)
        exact wp_load_row 23 (.tmp 4) rfl g4 e4 23 X (0, 0) _ (HBX.out w hb) Tryd.underlying23 rfl (by rw [HZX.out]; kernel_rfl) ⟨_, rfl, rfl, Below.refl _ _⟩
      · refine StepOKl.of ?_
        intro ac w hb hu hk
        refine ⟨wanted_some rfl (hk ⟨2, .guard⟩ (by simp) rfl) rfl rfl (fun _ h => h), ?_⟩
        have e1 : ac.eval (.tmp 1) = .int .i64 (p : Int) := hu.is (t := 1) (by kernel_rfl)
        exact step_value (BigFrame.run_move (.tmp 1) rfl w) (Below.refl _ _) e1
      · refine StepOKl.of ?_
        intro ac w hb hu hk
        refine ⟨wanted_some rfl (hk ⟨2, .guard⟩ (by simp) rfl) rfl rfl (fun _ h => h), ?_⟩
        have e2 : ac.eval (.tmp 2) = .int .i64 (i : Int) := hu.is (t := 2) (by kernel_rfl)
        exact step_value (BigFrame.run_move (.tmp 2) rfl w) (Below.refl _ _) e2
      · refine StepOKl.of ?_
        intro ac w hb hu hk
        refine ⟨wanted_some rfl (hk ⟨2, .guard⟩ (by simp) rfl) rfl rfl (fun _ h => h), ?_⟩
        have e3 : ac.eval (.tmp 3) = .slice A3 M c3 := hu.is (t := 3) (by kernel_rfl)
        exact step_value (BigFrame.run_move (.tmp 3) rfl w) (Below.refl _ _) e3
      · refine StepOKl.of ?_
        intro ac w hb hu hk
        refine ⟨wanted_some rfl (hk ⟨2, .chain⟩ (by simp) rfl) rfl rfl (fun _ h => h), ?_⟩
        have e46 : ac.eval (.tmp 46) = (.agg X) := (hk ⟨4, .data⟩ (by simp) rfl).is rfl rfl
        have e47 : ac.eval (.tmp 47) = (.int .i64 (p : Int)) := (hk ⟨5, .data⟩ (by simp) rfl).is rfl rfl
        have e48 : ac.eval (.tmp 48) = (.int .i64 (i : Int)) := (hk ⟨6, .data⟩ (by simp) rfl).is rfl rfl
        have e49 : ac.eval (.tmp 49) = (.slice A3 M c3) := (hk ⟨7, .data⟩ (by simp) rfl).is rfl rfl
        have ef : ac.eval (.func 26) = .func (.func 26) #[] #[] := rfl
        refine step_enter (f := 26) (args := #[.agg X, .int .i64 (p : Int), .int .i64 (i : Int), .slice A3 M c3]) ?_ ?_
        · generalize ac.eval = ρ at e46 e47 e48 e49 ef ⊢
          go_simp
        · exact (HRS.out w (HBW.out.trans (hb.mono HBW.out.size))).mono fun e w' ⟨V, cv, P, cp, he, h1, h2, hq⟩ => ⟨_, he, ⟨V, cv, P, cp, rfl, h1, h2⟩, hq⟩
      · refine StepOKl.of ?_
        intro ac w hb hu hk
        refine ⟨wanted_some rfl (hk ⟨2, .guard⟩ (by simp) rfl) rfl rfl (fun _ h => h), ?_⟩
        have e45 : ac.eval (.tmp 45) = (.agg SA) := (hk ⟨3, .data⟩ (by simp) rfl).is rfl rfl
        have e50 : ∃ V cv P cp, ac.eval (.tmp 50) = .agg (sigA (p : Int) (i : Int) V P 67 cv p cp) ∧ HV w (.slice V 67 cv) sg ∧ HV w (.slice P p cp) pv := (hk ⟨8, .data⟩ (by simp) rfl).is rfl rfl
        obtain ⟨V50, v50, P50, p50, eX50, hV50, hP50⟩ := e50
        have ef : ac.eval (.func 25) = .func (.func 25) #[] #[] := rfl
        refine step_enter (f := 25) (args := #[.agg SA, .agg (sigA (p : Int) (i : Int) V50 P50 67 v50 p p50)]) ?_ ?_
        · generalize ac.eval = ρ at e45 eX50 ef ⊢
          go_simp
        · exact (HSG.out V50 v50 P50 p50 w hb hV50 hP50).mono fun e w' ⟨he, hq⟩ => ⟨_, he, rfl, hq⟩
      · refine StepOKl.of ?_
        intro ac w hb hu hk
        refine ⟨wanted_none rfl, ?_⟩
        have e44 : ac.eval (.tmp 44) = (.bool true) := (hk ⟨2, .data⟩ (by simp) rfl).is rfl rfl
        have e51 : ac.eval (.tmp 51) = (.bool true) := (hk ⟨9, .data⟩ (by simp) rfl).is rfl rfl
        exact step_value (run_pick_true e44 rfl w) (Below.refl _ _) e51
      · refine StepOKl.of ?_
        intro ac w hb hu hk
        refine ⟨wanted_none rfl, ?_⟩
        have e52 : ac.eval (.tmp 52) = (.bool true) := (hk ⟨10, .data⟩ (by simp) rfl).is rfl rfl
        exact step_value (BigFrame.run_move (.tmp 52) rfl w) (Below.refl _ _) e52
      · refine StepOKl.of ?_
        intro ac w hb hu hk
        refine ⟨wanted_some rfl (hk ⟨11, .chain⟩ (by simp) rfl) rfl rfl (fun _ h => h), ?_⟩
        have ef : ac.eval (.func 17) = .func (.func 17) #[] #[] := rfl
        refine step_enter (f := 17) (args := #[]) ?_ ?_
        · generalize ac.eval = ρ at  ef ⊢
          go_simp
        · exact (HWK.out w hb).mono fun e w' ⟨he, hq⟩ => ⟨_, he, rfl, hq⟩
      · refine StepOKl.of ?_
        intro ac w hb hu hk
        refine ⟨wanted_none rfl, ?_⟩
        have e53 : ac.eval (.tmp 53) = (.bool true) := (hk ⟨11, .data⟩ (by simp) rfl).is rfl rfl
        have e54 : ac.eval (.tmp 54) = (.bool true) := (hk ⟨12, .data⟩ (by simp) rfl).is rfl rfl
        exact step_value (run_pick_true e53 rfl w) (Below.refl _ _) e54
      · intro ac w' hb hu hk hap
        obtain ⟨_, h42, rfl⟩ := (hk 0 (by decide)).put rfl rfl
        obtain ⟨_, h43, rfl⟩ := (hk 1 (by decide)).put rfl rfl
        obtain ⟨_, h44, rfl⟩ := (hk 2 (by decide)).put rfl rfl
        obtain ⟨_, h45, rfl⟩ := (hk 3 (by decide)).put rfl rfl
        obtain ⟨_, h46, rfl⟩ := (hk 4 (by decide)).put rfl rfl
        obtain ⟨_, h47, rfl⟩ := (hk 5 (by decide)).put rfl rfl
        obtain ⟨_, h48, rfl⟩ := (hk 6 (by decide)).put rfl rfl
        obtain ⟨_, h49, rfl⟩ := (hk 7 (by decide)).put rfl rfl
        obtain ⟨_, h50, ⟨V50, cv50, P50, cp50, rfl, hV50, hP50⟩⟩ := (hk 8 (by decide)).put rfl rfl
        obtain ⟨_, h51, rfl⟩ := (hk 9 (by decide)).put rfl rfl
        obtain ⟨_, h52, rfl⟩ := (hk 10 (by decide)).put rfl rfl
        obtain ⟨_, h53, rfl⟩ := (hk 11 (by decide)).put rfl rfl
        obtain ⟨_, h54, rfl⟩ := (hk 12 (by decide)).put rfl rfl
        obtain ⟨_, h55, rfl⟩ := (hk 13 (by decide)).put rfl rfl
        clear hap
        have hF : AllPuts ac.tmps ((42, _) :: (43, _) :: (44, _) :: (45, _) :: (46, _) :: (47, _) :: (48, _) :: (49, _) :: (50, _) :: (51, _) :: (52, _) :: (53, _) :: (54, _) :: (55, _) :: []) := ⟨h42, h43, h44, h45, h46, h47, h48, h49, h50, h51, h52, h53, h54, h55, trivial⟩
        obtain rfl := frame_puts hu (by kernel_rfl) hF
        simp only [puts, Act.put, List.setIfInBounds_toArray, List.set_cons_zero, List.set_cons_succ, List.drop_succ_cons, List.drop_zero]
        clear hk hu hF h42 h43 h44 h45 h46 h47 h48 h49 h50 h51 h52 h53 h54 h55
        have HBE := Lib.hid (HBW.out.trans (hb.mono HBW.out.size))
        clear hb
        go_wp2_with fail
        go_ret
        exact ⟨by first | rfl | kernel_rfl, HBE.out⟩

set_option maxRecDepth 100000 in
theorem contract (H : Type) (enc : TypeId × Value → H) (W : World) (base : Nat) (args : Array Value) (ds gs : List (DataW H)) (before : List MemPlace)
    (hval : ∀ (j : Nat) t v, Tryd.f6.params[j]? = some t → args[j]? = some v → Value.okWide Tryd.prog W .any base t v)
    (hW : DataW.Whole enc Tryd.prog Tryd.f6.params.toList Rows.mssSignsSpec.vars false W args.toList ds gs before) (hL : laidMetH Tryd.prog Rows.mssSignsRow.laid W) :
    Calls Tryd.prog 6 args W fun e W' => ∃ v, e = .returned v ∧ Rows.mssSignsSpec.post enc Tryd.prog Tryd.f6 false true false false W args v W' := by
  have hW' := hW
  obtain ⟨p, q, hA0, hV, rfl, hfz, hnd⟩ := hW
  have hA : DataW.TrodAll enc Tryd.prog W 0 (fun _ => true) true Tryd.f6.params.toList args.toList ds p := hA0
  rw [Tryd.params6] at hA hval
  obtain ⟨v0, v1, v2, v3, d0, d1, d2, d3, p0, p1, p2, p3, rfl, rfl, rfl, h0, h1, h2, h3⟩ := trodAll_four hA
  obtain ⟨rfl, rfl⟩ := trodVars_none hV
  obtain ⟨k0, rfl, hk0⟩ := open_array Tryd.underlying23 (by kernel_rfl) (hval 0 23 v0 rfl rfl) h0
  obtain ⟨n1, rfl, rfl, rfl, wf1⟩ := open_int Tryd.underlying3 (hval 1 3 v1 rfl rfl) h1
  have b1 := bounds_i64 wf1
  obtain ⟨n2, rfl, rfl, rfl, wf2⟩ := open_int Tryd.underlying3 (hval 2 3 v2 rfl rfl) h2
  have b2 := bounds_i64 wf2
  obtain ⟨A3, m3, c3, l3, rfl, hl3, hc3, hm3, hr3⟩ := open_bytes (hval 3 24 v3 rfl rfl) h3
  clear hA0
  refine (walk k0 n1 n2 A3 m3 c3 l3 W hk0 b1.1 b1.2 b2.1 b2.2 hl3 hc3 hm3 hr3 (pow10 hL)).mono fun e W' ⟨he, hb⟩ => ?_
  exact ⟨_, he, law_post hW' rfl (by kernel_rfl) rfl (by kernel_rfl) hb⟩

theorem laid_met (os : Os) : laidMet Tryd.prog Rows.mssSignsRow.laid ((laidWorld os).forCall (fun _ _ => 0) ⟨#[], #[.agg #[.int .u8 0, .int .u8 0, .int .u8 0, .int .u8 0, .int .u8 0, .int .u8 0, .int .u8 0, .int .u8 0, .int .u8 0, .int .u8 0, .int .u8 0, .int .u8 0, .int .u8 0, .int .u8 0, .int .u8 0, .int .u8 0], .int .i64 0, .int .i64 0, .slice none 0 0], []⟩).memory :=
  laidMet_of_run' 8 (by kernel_rfl) (by kernel_rfl)
theorem reads (os : Os) {H : Type} (enc : TypeId × Value → H) : ∃ places, DataW.whole enc Tryd.prog ((laidWorld os).forCall (fun _ _ => 0) ⟨#[], #[.agg #[.int .u8 0, .int .u8 0, .int .u8 0, .int .u8 0, .int .u8 0, .int .u8 0, .int .u8 0, .int .u8 0, .int .u8 0, .int .u8 0, .int .u8 0, .int .u8 0, .int .u8 0, .int .u8 0, .int .u8 0, .int .u8 0], .int .i64 0, .int .i64 0, .slice none 0 0], []⟩).memory Tryd.f6.params.toList Rows.mssSignsSpec.vars false #[Value.agg #[.int .u8 0, .int .u8 0, .int .u8 0, .int .u8 0, .int .u8 0, .int .u8 0, .int .u8 0, .int .u8 0, .int .u8 0, .int .u8 0, .int .u8 0, .int .u8 0, .int .u8 0, .int .u8 0, .int .u8 0, .int .u8 0], Value.int .i64 0, Value.int .i64 0, Value.slice none 0 0].toList 8 = some ([.agg [.lit (.int .u8 0), .lit (.int .u8 0), .lit (.int .u8 0), .lit (.int .u8 0), .lit (.int .u8 0), .lit (.int .u8 0), .lit (.int .u8 0), .lit (.int .u8 0), .lit (.int .u8 0), .lit (.int .u8 0), .lit (.int .u8 0), .lit (.int .u8 0), .lit (.int .u8 0), .lit (.int .u8 0), .lit (.int .u8 0), .lit (.int .u8 0)], .lit (.int .i64 0), .lit (.int .i64 0), .nil], [], places) :=
  ⟨[], by kernel_rfl⟩

set_option maxRecDepth 100000 in
theorem lifted (os : Os) (started : os.Started) (H : Type) (enc : TypeId × Value → H) (F : Stop.Interp) :
    ReturnsInHanded {} Tryd.checked os 6 .any ((OpenSpec.ofChange Rows.mssSignsSpec).preRow enc Tryd.prog Tryd.f6 Rows.mssSignsRow.domain false Rows.mssSignsRow.laid) (((OpenSpec.ofChange Rows.mssSignsSpec).at F).post enc Tryd.prog Tryd.f6 false true false false) := by
  obtain ⟨places, hx⟩ := reads os enc
  refine returnsInHanded_of_row (C := Tryd.checked) (s := OpenSpec.ofChange Rows.mssSignsSpec) own started (by kernel_rfl) Tryd.func6
    (witness_row_at (enc := enc) (C := Tryd.checked) false (laidWorld os) #[.agg #[.int .u8 0, .int .u8 0, .int .u8 0, .int .u8 0, .int .u8 0, .int .u8 0, .int .u8 0, .int .u8 0, .int .u8 0, .int .u8 0, .int .u8 0, .int .u8 0, .int .u8 0, .int .u8 0, .int .u8 0, .int .u8 0], .int .i64 0, .int .i64 0, .slice none 0 0] rfl (by kernel_rfl) (by kernel_rfl) (by kernel_rfl)
      (OpenSpec.preRow_of_cond 8 hx (by kernel_rfl) (fun k hk => by cases hk) (by kernel_rfl) (laid_met os))) ?_
  intro W base args ds gs before hval hW _ _ _ hL _ _
  exact contract H enc W base args ds gs before hval hW hL

theorem said : Rows.MssSignsSaid :=
  OpenClaim.holds_of_cond 6 Tryd.f6 rfl rfl rfl rfl rfl rfl rfl ⟨rfl, rfl, rfl, rfl, rfl⟩ rfl rfl rfl rfl rfl (by kernel_rfl) Tryd.func6 (by kernel_rfl)
    (of_decide_eq_true (by kernel_rfl)) (by unfold Func.isWrapper; first | (rw [if_pos (by decide +kernel)]; kernel_rfl) | (rw [if_neg (by decide +kernel)]; exact ⟨rfl, rfl⟩))
    (fun os started H enc _ F => by rw [OpenClaim.pre_eq_preRow]; exact lifted os started H enc F)

theorem plain (f : FuncId) (fn : Func) (hf : Tryd.pinned.checked.prog.funcNamed "aumbry/aumbrylaw09.MssSigns" = some f) (hfn : Tryd.pinned.checked.prog.funcs[f]? = some fn) :
    false = Tryd.pinned.checked.prog.looks [] ∧ ∀ (j : Nat) t, fn.params[j]? = some t → Tryd.pinned.checked.prog.wantsStandIn t = false := by
  obtain rfl : f = 6 := Option.some.inj ((show Tryd.prog.funcNamed "aumbry/aumbrylaw09.MssSigns" = some 6 by kernel_rfl).symm.trans hf) |>.symm
  obtain rfl : fn = Tryd.f6 := (Option.some.inj (Tryd.func6.symm.trans hfn)).symm
  refine ⟨by kernel_rfl, fun j t ht => ?_⟩
  exact wants_none (by kernel_rfl) (Array.mem_of_getElem? ht)

/-- The card: the statement holds, its listed tables tied to the program's text. -/
theorem card : Rows.MssSignsCardSaid :=
  Claim7.holds_tied_plain_at .later [] _ _ _ _ said (fun _ h => by cases h) (by kernel_rfl) (fun _ h => by cases h) mssSigns_row_tie rfl ⟨rfl, rfl⟩ (by kernel_rfl) rfl plain (by kernel_rfl)
end Go.Proofs.YtfgieebccjoboaaDoor.mssSigns
